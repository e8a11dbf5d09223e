/-
  The drawing of scenes: the state in l4DrawAny.
-/
import Derived.Test.YtcofhmikdkkigaaGreatDoorOpApp
import Derived.Test.YtcofhmikdkkigaaGreatDoorPfAI
namespace Go.Proofs.YtcofhmikdkkigaaGreatDoor
open Go.RowKit

/-- In the midst of the draw: the cursor in the block g, a scene's value t in the box sb, room for the answer in rb; the scene's value s is m. -/
structure DA (w : World) (g rb sb : Nat) (t s : Sv) (m : Scn) (B : Nat → Prop) (u : World) : Prop where
  cur : Cur u g
  gro : w.grownBy u (some g)
  gl : g < w.heap.size
  sc : ScK u sb t
  rk : ScK u rb ⟨0, none, 0, 0, none, 0, 0, none, 0, 0, none, 0, 0⟩
  scr : ScR B u s m
  sl : w.heap.size ≤ rb ∧ rb < sb
  bB : ∀ b, B b → w.heap.size ≤ b ∧ b < u.heap.size ∧ b ≠ sb ∧ b ≠ rb
theorem ScK.setL {w : World} {b : Nat} {s : Sv} (h : ScK w b s) (ao : Option Addr) (n c : Nat) : ScK (w.setCell ⟨b, 1, none⟩ (.slice ao n c)) b { s with lo := ao, ll := n, lc := c } := heap_setCell_same w b 1 _ _ (.slice ao n c) h
theorem ScK.setC {w : World} {b : Nat} {s : Sv} (h : ScK w b s) (ao : Option Addr) (n c : Nat) : ScK (w.setCell ⟨b, 2, none⟩ (.slice ao n c)) b { s with co := ao, cl := n, cc := c } := heap_setCell_same w b 2 _ _ (.slice ao n c) h
theorem ScK.setN {w : World} {b : Nat} {s : Sv} (h : ScK w b s) (ao : Option Addr) (n c : Nat) : ScK (w.setCell ⟨b, 3, none⟩ (.slice ao n c)) b { s with no := ao, nl := n, nc := c } := heap_setCell_same w b 3 _ _ (.slice ao n c) h
section
variable {w u u' : World} {g rb sb : Nat} {t s : Sv} {m : Scn} {B : Nat → Prop}
/-- What changes in a row of the scene's, or in none. -/
theorem DA.side {row : Option Nat} (h : DA w g rb sb t s m B u) (k : u.grownBy u' row) (hr : ∀ j, row = some j → B j) : Cur u' g ∧ w.grownBy u' (some g) ∧ ScK u' sb t ∧ ScK u' rb ⟨0, none, 0, 0, none, 0, 0, none, 0, 0, none, 0, 0⟩ := by
  have hgl := h.gl
  refine ⟨h.cur.other k fun j hj => ?_, grown_then h.gro k fun j hj => .inl (h.bB j (hr j hj)).1, h.sc.keep k fun e => (h.bB sb (hr sb e)).2.2.1 rfl, h.rk.keep k fun e => (h.bB rb (hr rb e)).2.2.2 rfl⟩
  have := (h.bB j (hr j hj)).1
  omega
theorem DA.draw (h : DA w g rb sb t s m B u) (c : Cur u' g) (k : u.grownBy u' (some g)) : DA w g rb sb t s m B u' := by
  have hgl := h.gl
  have hsl := h.sl
  have hz := k.size
  exact ⟨c, grown_trans h.gro k, h.gl, h.sc.keep k (by simp only [ne_eq, Option.some.injEq]; omega), h.rk.keep k (by simp only [ne_eq, Option.some.injEq]; omega), h.scr.keep k (fun j hj => by cases hj; exact fun q => by have := (h.bB _ q).1; omega), h.sl, fun b q => ⟨(h.bB b q).1, by have := (h.bB b q).2.1; omega, (h.bB b q).2.2⟩⟩
theorem DA.fr (h : DA w g rb sb t s m B u) (k : Fr u u') : DA w g rb sb t s m B u' := by
  have hz := k.size
  exact ⟨h.cur.fr k, grown_trans h.gro k.wide, h.gl, h.sc.fr k, h.rk.fr k, h.scr.fr k, h.sl, fun b q => ⟨(h.bB b q).1, by have := (h.bB b q).2.1; omega, (h.bB b q).2.2⟩⟩
theorem DA.boxed {i : Nat} {v : Value} {t' : Sv} (h : DA w g rb sb t s m B u) (hk : ScK (u.setCell ⟨sb, i, none⟩ v) sb t') : DA w g rb sb t' s m B (u.setCell ⟨sb, i, none⟩ v) := by
  have hgl := h.gl
  have hsl := h.sl
  have k := grown_set u sb i v
  have hz := k.size
  exact ⟨h.cur.other k (fun j hj => by simp only [Option.some.injEq] at hj; omega), grown_then h.gro k (fun j hj => by simp only [Option.some.injEq] at hj; omega), h.gl, hk, h.rk.keep k (by simp only [ne_eq, Option.some.injEq]; omega), h.scr.keep k (fun j hj => by cases hj; exact fun q => (h.bB _ q).2.2.1 rfl), h.sl, fun b q => ⟨(h.bB b q).1, by have := (h.bB b q).2.1; omega, (h.bB b q).2.2⟩⟩
theorem DA.fin (h : DA w g rb sb t s m B u) (v0 v1 v2 v3 v4 : Value) (hu : u' = ((((u.setCell ⟨rb, 0, none⟩ v0).setCell ⟨rb, 1, none⟩ v1).setCell ⟨rb, 2, none⟩ v2).setCell ⟨rb, 3, none⟩ v3).setCell ⟨rb, 4, none⟩ v4) :
    ScR B u' s m ∧ (∀ b, B b → w.heap.size ≤ b ∧ b < u'.heap.size) ∧ Cur u' g ∧ w.grownBy u' (some g) := by
  have hgl := h.gl
  have hsl := h.sl
  have k := put5 u rb v0 v1 v2 v3 v4
  rw [← hu] at k
  have hz := k.size
  exact ⟨h.scr.keep k (fun j hj => by cases hj; exact fun q => (h.bB _ q).2.2.2 rfl), fun b q => ⟨(h.bB b q).1, by have := (h.bB b q).2.1; omega⟩, h.cur.other k (fun j hj => by simp only [Option.some.injEq] at hj; omega), grown_then h.gro k (fun j hj => by simp only [Option.some.injEq] at hj; omega)⟩
theorem DA.gors (h : DA w g rb sb t s m B u) (x : Int) (hx : I64 x) : DA w g rb sb t { s with g := x } { m with g := x } B u :=
  { h with scr := { h.scr with g := rfl, ig := hx } }

theorem DA.own (h : DA w g rb sb t s m B u) (hO : OwR u s) (k : u.grownBy u' (some g)) : OwR u' s :=
  hO.keep h.scr k (fun j hj => by cases hj; exact fun q => by have := (h.bB _ q).1; have := h.gl; omega)
theorem ne_rows {T T' : Nat} {ao bo : Option Addr} (h1 : ∀ b, blk ao = some b → RowOf T u b) (h2 : ∀ b, blk bo = some b → RowOf T' u b) (hT : T ≠ T') : blk bo = none ∨ blk ao ≠ blk bo := by
  cases hb : blk bo with
  | none => exact .inl rfl
  | some b => exact .inr fun e => hT ((h1 b e).one (h2 b hb))
theorem has_blk {α : Type} {L : Lay α} {ao : Option Addr} {n c : Nat} {xs : List α} (h : OwnG L u 0 (.slice ao n c) xs) : ReadsG L u ao xs ∧ n = xs.length := HasG.reads (.inr h)

theorem DA.locks {B2 : Nat → Prop} {lvs : List Lv} {kv : Lv} {kk : Lk} {g' c' : Nat} (h : DA w g rb sb t s m B u) (hO : OwR u s) (hf : m.ls.length ≤ 16) (hr : HasG layL u s.lo s.ll s.lc lvs) (hk : LkR B2 u kv kk) (hB2 : ∀ b, B2 b → (w.heap.size ≤ b ∧ b < u.heap.size ∧ b ≠ sb ∧ b ≠ rb) ∧ RowOf 2 u b)
    (own : OwnG layL u' 0 (.slice (some ⟨g', 0, none⟩) (lvs.length + 1) c') (lvs ++ [kv])) (gr : u.grownBy u' (blk s.lo)) (hat : some g' = blk s.lo ∨ g' = u.heap.size) :
    ∃ B', DA w g rb sb t { s with lo := some ⟨g', 0, none⟩, ll := lvs.length + 1, lc := c' } { m with ls := m.ls ++ [kk] } B' u' := by
  obtain ⟨a1, a2, a3, a4⟩ := h.side gr (fun j hj => h.scr.bl j hj)
  have hz := gr.size
  have hsl := h.sl
  have hsb := h.sc.lt
  have hrow := hr.row
  have hg' := OwnG.lt own g' rfl
  have hrd := hO.rd hr.reads.1 hr.reads.2
  obtain ⟨cs, hc⟩ := hO.c
  obtain ⟨ns, hn⟩ := hO.n
  obtain ⟨xs, x1, x2, x3⟩ := h.scr.lks
  have e := lks_one x1 hr.reads.1 (by rw [← x2, hr.reads.2])
  subst e
  refine ⟨fun b => B b ∨ B2 b ∨ b = g', a1, a2, h.gl, a3, a4, ?_, h.sl, ?_⟩
  · have keepR : ∀ {ao : Option Addr} {ys : List Int}, Reads u ao ys → (∀ b, blk ao = some b → RowOf 2 u b) → Reads u' ao ys := fun hy hq => hy.keep gr (ne_rows hq hrow (by decide))
    have hs := h.scr
    refine { hs with lks := ⟨xs ++ [kv], (has_blk own).1, by simp, ?_⟩, chs := hs.chs.keep gr (ne_rows hc.row hrow (by decide)), cts := hs.cts.keep gr (ne_rows hn.row hrow (by decide)), ons := keepR hs.ons hO.o.row, bl := ?_, bc := hs.bc.mono (fun _ => .inl), bn := hs.bn.mono (fun _ => .inl), bo := hs.bo.mono (fun _ => .inl), sl := ?_ }
    · refine LksR.snoc ⟨x3.len, fun j h1 h2 => ?_⟩ ?_
      · have q := x3.at_ j h1 h2
        exact { q with rd := keepR q.rd (fun b hb => (hrd _ (List.getElem_mem h1) b hb).1), bl := q.bl.mono (fun _ => .inl) }
      · exact { hk with rd := keepR hk.rd (fun b hb => (hB2 b (hk.bl b hb)).2), bl := hk.bl.mono (fun _ q => .inr (.inl q)) }
    · intro b hb
      simp only [blk, Option.map_some, Option.some.injEq] at hb
      exact .inr (.inr hb.symm)
    · show (m.ls ++ [kk]).length ≤ 1048576
      simp
      omega
  · rintro b (q | q | rfl)
    · have := h.bB b q; exact ⟨this.1, by omega, this.2.2⟩
    · have := (hB2 b q).1; exact ⟨this.1, by omega, this.2.2⟩
    · rcases hat with e | e
      · have := h.bB b (h.scr.bl b e.symm); exact ⟨this.1, by omega, this.2.2⟩
      · have := h.gro.size; exact ⟨by omega, hg', by omega, by omega⟩
theorem DA.chans {cs0 : List Ch} {kk : Ch} {g' c' : Nat} (h : DA w g rb sb t s m B u) (hO : OwR u s) (hf : m.cs.length ≤ 16) (hr : HasG layC u s.co s.cl s.cc cs0) (hk : I64 kk.o ∧ I64 kk.cap ∧ I64 kk.sent ∧ I64 kk.got)
    (own : OwnG layC u' 0 (.slice (some ⟨g', 0, none⟩) (cs0.length + 1) c') (cs0 ++ [kk])) (hcs : cs0 = m.cs) (gr : u.grownBy u' (blk s.co)) (hat : some g' = blk s.co ∨ g' = u.heap.size) :
    ∃ B', DA w g rb sb t { s with co := some ⟨g', 0, none⟩, cl := cs0.length + 1, cc := c' } { m with cs := m.cs ++ [kk] } B' u' := by
  subst hcs
  obtain ⟨a1, a2, a3, a4⟩ := h.side gr (fun j hj => h.scr.bc j hj)
  have hz := gr.size
  have hsl := h.sl
  have hsb := h.sc.lt
  have hrow := hr.row
  have hg' := OwnG.lt own g' rfl
  obtain ⟨lvs, hl, hrd⟩ := hO.l
  obtain ⟨ns, hn⟩ := hO.n
  obtain ⟨xs, x1, x2, x3⟩ := h.scr.lks
  have e := lks_one x1 hl.reads.1 (by rw [← x2, hl.reads.2])
  subst e
  refine ⟨fun b => B b ∨ b = g', a1, a2, h.gl, a3, a4, ?_, h.sl, ?_⟩
  · have keepR : ∀ {ao : Option Addr} {ys : List Int}, Reads u ao ys → (∀ b, blk ao = some b → RowOf 2 u b) → Reads u' ao ys := fun hy hq => hy.keep gr (ne_rows hq hrow (by decide))
    have hs := h.scr
    refine { hs with lks := ⟨xs, x1.keep gr (ne_rows hl.row hrow (by decide)), x2, ⟨x3.len, fun j h1 h2 => ?_⟩⟩, chs := (has_blk own).1, cl := by simp, cts := hs.cts.keep gr (ne_rows hn.row hrow (by decide)), ons := keepR hs.ons hO.o.row, bl := hs.bl.mono (fun _ => .inl), bc := ?_, bn := hs.bn.mono (fun _ => .inl), bo := hs.bo.mono (fun _ => .inl), sc := ?_, ic := ?_ }
    · have q := x3.at_ j h1 h2
      exact { q with rd := keepR q.rd (fun b hb => (hrd _ (List.getElem_mem h1) b hb).1), bl := q.bl.mono (fun _ => .inl) }
    · intro b hb
      simp only [blk, Option.map_some, Option.some.injEq] at hb
      exact .inr hb.symm
    · show (m.cs ++ [kk]).length ≤ 1048576
      simp
      omega
    · intro c hc
      rcases List.mem_append.1 hc with hc | hc
      · exact hs.ic c hc
      · rw [List.mem_singleton.1 hc]; exact hk
  · rintro b (q | rfl)
    · have := h.bB b q; exact ⟨this.1, by omega, this.2.2⟩
    · rcases hat with e | e
      · have := h.bB b (h.scr.bc b e.symm); exact ⟨this.1, by omega, this.2.2⟩
      · have := h.gro.size; exact ⟨by omega, hg', by omega, by omega⟩
theorem DA.counts {cs0 : List Ct} {kk : Ct} {g' c' : Nat} (h : DA w g rb sb t s m B u) (hO : OwR u s) (hf : m.gs.length ≤ 16) (hr : HasG layN u s.no s.nl s.nc cs0) (hk : I64 kk.o ∧ I64 kk.n)
    (own : OwnG layN u' 0 (.slice (some ⟨g', 0, none⟩) (cs0.length + 1) c') (cs0 ++ [kk])) (hcs : cs0 = m.gs) (gr : u.grownBy u' (blk s.no)) (hat : some g' = blk s.no ∨ g' = u.heap.size) :
    ∃ B', DA w g rb sb t { s with no := some ⟨g', 0, none⟩, nl := cs0.length + 1, nc := c' } { m with gs := m.gs ++ [kk] } B' u' := by
  subst hcs
  obtain ⟨a1, a2, a3, a4⟩ := h.side gr (fun j hj => h.scr.bn j hj)
  have hz := gr.size
  have hsl := h.sl
  have hsb := h.sc.lt
  have hrow := hr.row
  have hg' := OwnG.lt own g' rfl
  obtain ⟨lvs, hl, hrd⟩ := hO.l
  obtain ⟨ns, hn⟩ := hO.c
  obtain ⟨xs, x1, x2, x3⟩ := h.scr.lks
  have e := lks_one x1 hl.reads.1 (by rw [← x2, hl.reads.2])
  subst e
  refine ⟨fun b => B b ∨ b = g', a1, a2, h.gl, a3, a4, ?_, h.sl, ?_⟩
  · have keepR : ∀ {ao : Option Addr} {ys : List Int}, Reads u ao ys → (∀ b, blk ao = some b → RowOf 2 u b) → Reads u' ao ys := fun hy hq => hy.keep gr (ne_rows hq hrow (by decide))
    have hs := h.scr
    refine { hs with lks := ⟨xs, x1.keep gr (ne_rows hl.row hrow (by decide)), x2, ⟨x3.len, fun j h1 h2 => ?_⟩⟩, cts := (has_blk own).1, nl := by simp, chs := hs.chs.keep gr (ne_rows hn.row hrow (by decide)), ons := keepR hs.ons hO.o.row, bl := hs.bl.mono (fun _ => .inl), bn := ?_, bc := hs.bc.mono (fun _ => .inl), bo := hs.bo.mono (fun _ => .inl), sn := ?_, inn := ?_ }
    · have q := x3.at_ j h1 h2
      exact { q with rd := keepR q.rd (fun b hb => (hrd _ (List.getElem_mem h1) b hb).1), bl := q.bl.mono (fun _ => .inl) }
    · intro b hb
      simp only [blk, Option.map_some, Option.some.injEq] at hb
      exact .inr hb.symm
    · show (m.gs ++ [kk]).length ≤ 1048576
      simp
      omega
    · intro c hc
      rcases List.mem_append.1 hc with hc | hc
      · exact hs.inn c hc
      · rw [List.mem_singleton.1 hc]; exact hk
  · rintro b (q | rfl)
    · have := h.bB b q; exact ⟨this.1, by omega, this.2.2⟩
    · rcases hat with e | e
      · have := h.bB b (h.scr.bn b e.symm); exact ⟨this.1, by omega, this.2.2⟩
      · have := h.gro.size; exact ⟨by omega, hg', by omega, by omega⟩
theorem reads_layI {ao : Option Addr} {xs : List Int} (h : ReadsG layI u ao xs) (hx : ∀ x ∈ xs, I64 x) : Reads u ao xs := by
  have hl := h.len
  refine ⟨by omega, hx, fun i hi => ?_⟩
  obtain ⟨b, off, e, hc⟩ := h.at_ i hi
  refine ⟨b, off, e, fun j hj => ?_⟩
  have q := hc j hj 0 (by decide)
  rw [getD_at hj]
  have e1 : j * layI.sz + 0 = j := Nat.mul_one j
  rw [Nat.add_assoc, e1] at q
  exact q
theorem ints_one {ao : Option Addr} {xs ys : List Int} (h : ReadsG layI u ao xs) (h' : Reads u ao ys) (hl : xs.length = ys.length) : xs = ys := by
  refine List.ext_getElem hl fun k h1 h2 => ?_
  obtain ⟨b, off, e, hc⟩ := h.at_ k h1
  obtain ⟨b', off', e', hc'⟩ := h'.at_ k h2
  rw [e] at e'
  simp only [Option.some.injEq, Addr.mk.injEq, and_true] at e'
  obtain ⟨rfl, rfl⟩ := e'
  have q := hc k h1 0 (by decide)
  have q' := hc' k h2
  rw [getD_at h2] at q'
  have e1 : k * layI.sz + 0 = k := Nat.mul_one k
  rw [Nat.add_assoc, e1, q'] at q
  have q : some (Value.int .i64 ys[k]) = some (Value.int .i64 xs[k]) := q
  simp only [Option.some.injEq, Value.int.injEq, true_and] at q
  exact q.symm
theorem DA.onces {cs0 : List Int} {x : Int} {g' c' : Nat} (h : DA w g rb sb t s m B u) (hO : OwR u s) (hf : m.os.length ≤ 16) (hr : HasG layI u s.oo s.ol s.oc cs0) (hk : I64 x) (h0 : ∀ x ∈ cs0, I64 x)
    (own : OwnG layI u' 0 (.slice (some ⟨g', 0, none⟩) (cs0.length + 1) c') (cs0 ++ [x])) (gr : u.grownBy u' (blk s.oo)) (hat : some g' = blk s.oo ∨ g' = u.heap.size) :
    ∃ B', DA w g rb sb t { s with oo := some ⟨g', 0, none⟩, ol := cs0.length + 1, oc := c' } { m with os := m.os ++ [x] } B' u' := by
  have ec := ints_one hr.reads.1 h.scr.ons (by rw [← hr.reads.2, h.scr.ol])
  subst ec
  obtain ⟨a1, a2, a3, a4⟩ := h.side gr (fun j hj => h.scr.bo j hj)
  have hz := gr.size
  have hsl := h.sl
  have hsb := h.sc.lt
  have hrow := hO.o.row
  have hg' := OwnG.lt own g' rfl
  obtain ⟨lvs, hl, hrd⟩ := hO.l
  obtain ⟨ns, hn⟩ := hO.n
  obtain ⟨cs, hc⟩ := hO.c
  obtain ⟨xs, x1, x2, x3⟩ := h.scr.lks
  have e := lks_one x1 hl.reads.1 (by rw [← x2, hl.reads.2])
  subst e
  refine ⟨fun b => B b ∨ b = g', a1, a2, h.gl, a3, a4, ?_, h.sl, ?_⟩
  · have hs := h.scr
    refine { hs with lks := ⟨xs, x1.keep gr (ne_rows hl.row hrow (by decide)), x2, ⟨x3.len, fun j h1 h2 => ?_⟩⟩, chs := hs.chs.keep gr (ne_rows hc.row hrow (by decide)), cts := hs.cts.keep gr (ne_rows hn.row hrow (by decide)), ons := reads_layI (has_blk own).1 ?_, ol := by simp, bl := hs.bl.mono (fun _ => .inl), bo := ?_, bc := hs.bc.mono (fun _ => .inl), bn := hs.bn.mono (fun _ => .inl), so := ?_, zo := fun q => by simp at q }
    · have q := x3.at_ j h1 h2
      refine { q with rd := q.rd.keep gr ?_, bl := q.bl.mono (fun _ => .inl) }
      cases hb : blk s.oo with
      | none => exact .inl rfl
      | some b => exact .inr fun e => (hrd _ (List.getElem_mem h1) b e).2 hb
    · intro y hy
      rcases List.mem_append.1 hy with hy | hy
      · exact h0 y hy
      · rw [List.mem_singleton.1 hy]; exact hk
    · intro b hb
      simp only [blk, Option.map_some, Option.some.injEq] at hb
      exact .inr hb.symm
    · show (m.os ++ [x]).length ≤ 1048576
      simp
      omega
  · rintro b (q | rfl)
    · have := h.bB b q; exact ⟨this.1, by omega, this.2.2⟩
    · rcases hat with e | e
      · have := h.bB b (h.scr.bo b e.symm); exact ⟨this.1, by omega, this.2.2⟩
      · have := h.gro.size; exact ⟨by omega, hg', by omega, by omega⟩
end
end Go.Proofs.YtcofhmikdkkigaaGreatDoor
