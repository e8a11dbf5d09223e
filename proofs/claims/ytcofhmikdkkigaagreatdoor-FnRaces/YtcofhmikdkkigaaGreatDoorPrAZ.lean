/-
  Pack AZ: Past2.
-/
import Derived.Test.YtcofhmikdkkigaaGreatDoorPrAY
import Derived.Test.YtcofhmikdkkigaaGreatDoorPrAO
import Derived.BigRegion
import Derived.Deep.RegionWith
namespace Go.Proofs.YtcofhmikdkkigaaGreatDoor
open Go.RowKit

theorem PsC.rest {T : TypeId} {w w' : World} {p off off' n N : Nat} (h : PsC w p off' N) (k : Wrote T p off n w w') (hd : off' + 5 ≤ off ∨ off + n ≤ off') : PsC w' p off' N := fun q hq => by
  rw [k.rest _ (by omega)]
  exact h q hq
theorem BoardW.keep1 {w w' : World} {lo : Nat × Nat} {b b1 b2 b3 b4 n x : Nat} {m : Scn} (h : BoardW lo w b b1 b2 b3 b4 n m) (k : w.grownBy w' (some x)) (hx : b < x) (h2 : x < lo.2) (h1 : lo.1 = 0) : BoardW lo w' b b1 b2 b3 b4 n m := by
  have hl := h.lt
  exact h.keepS (S := fun y => y = x) (grown_toS k rfl) (fun y hy => by subst hy; unfold On; omega)
theorem put5P {T : TypeId} {w : World} {p off M : Nat} (N : Nat) (hr : RowAt w p T) (h : PsC w p off M) : PsC (((((w.setCell ⟨p, off, none⟩ (.int .u64 (wd N 0))).setCell ⟨p, off + 1, none⟩ (.int .u64 (wd N 1))).setCell ⟨p, off + 2, none⟩ (.int .u64 (wd N 2))).setCell ⟨p, off + 3, none⟩ (.int .u64 (wd N 3))).setCell ⟨p, off + 4, none⟩ (.int .u64 (wd N 4))) p off N ∧ Wrote T p off 5 w (((((w.setCell ⟨p, off, none⟩ (.int .u64 (wd N 0))).setCell ⟨p, off + 1, none⟩ (.int .u64 (wd N 1))).setCell ⟨p, off + 2, none⟩ (.int .u64 (wd N 2))).setCell ⟨p, off + 3, none⟩ (.int .u64 (wd N 3))).setCell ⟨p, off + 4, none⟩ (.int .u64 (wd N 4))) := by
  have w0 := wrote_set (T := T) (w := w) (b := p) (off := off) (i := 0) (n := 5) (v := .int .u64 (wd N 0)) hr (by omega)
  have w1 := wrote_set (T := T) (off := off) (i := 1) (n := 5) (v := .int .u64 (wd N 1)) w0.row (by omega)
  have w2 := wrote_set (T := T) (off := off) (i := 2) (n := 5) (v := .int .u64 (wd N 2)) w1.row (by omega)
  have w3 := wrote_set (T := T) (off := off) (i := 3) (n := 5) (v := .int .u64 (wd N 3)) w2.row (by omega)
  have w4 := wrote_set (T := T) (off := off) (i := 4) (n := 5) (v := .int .u64 (wd N 4)) w3.row (by omega)
  have ne : ∀ (a c : Nat), a ≠ c → (⟨p, off + a, none⟩ : Addr) ≠ ⟨p, off + c, none⟩ := fun a c hac q => hac (by injection q; omega)
  have s0 : ∀ (u : World) (a : Nat) (v : Value), a < 5 → (∀ c, c < 5 → (u.cell? ⟨p, off + c, none⟩).isSome = true) → ∀ c, c < 5 → ((u.setCell ⟨p, off + a, none⟩ v).cell? ⟨p, off + c, none⟩).isSome = true := by
    intro u a v ha hu c hc
    by_cases e : c = a
    · subst e
      rw [World.cell?_setCell_same' _ _ _ (hu c hc)]
      rfl
    · rw [World.cell?_setCell_other _ _ _ _ (ne a c (fun q => e q.symm))]
      exact hu c hc
  have i0 : ∀ c, c < 5 → (w.cell? ⟨p, off + c, none⟩).isSome = true := fun c hc => by rw [h c hc]; rfl
  have i1 := s0 _ 0 (.int .u64 (wd N 0)) (by omega) i0
  have i2 := s0 _ 1 (.int .u64 (wd N 1)) (by omega) i1
  have i3 := s0 _ 2 (.int .u64 (wd N 2)) (by omega) i2
  have i4 := s0 _ 3 (.int .u64 (wd N 3)) (by omega) i3
  refine ⟨fun k hk => ?_, (((w0.trans w1).trans w2).trans w3).trans w4⟩
  rcases k with _ | _ | _ | _ | _ | k
  · rw [World.cell?_setCell_other _ _ _ _ (ne 4 0 (by omega)), World.cell?_setCell_other _ _ _ _ (ne 3 0 (by omega)), World.cell?_setCell_other _ _ _ _ (ne 2 0 (by omega)), World.cell?_setCell_other _ _ _ _ (ne 1 0 (by omega))]
    exact World.cell?_setCell_same' _ _ _ (i0 0 (by omega))
  · rw [World.cell?_setCell_other _ _ _ _ (ne 4 1 (by omega)), World.cell?_setCell_other _ _ _ _ (ne 3 1 (by omega)), World.cell?_setCell_other _ _ _ _ (ne 2 1 (by omega))]
    exact World.cell?_setCell_same' _ _ _ (i1 1 (by omega))
  · rw [World.cell?_setCell_other _ _ _ _ (ne 4 2 (by omega)), World.cell?_setCell_other _ _ _ _ (ne 3 2 (by omega))]
    exact World.cell?_setCell_same' _ _ _ (i2 2 (by omega))
  · rw [World.cell?_setCell_other _ _ _ _ (ne 4 3 (by omega))]
    exact World.cell?_setCell_same' _ _ _ (i3 3 (by omega))
  · exact World.cell?_setCell_same' _ _ _ (i4 4 (by omega))
  · omega
theorem ReadsG.keepS {α : Type} {L : Lay α} {S : Nat → Prop} {w w' : World} {ao : Option Addr} {xs : List α} (h : ReadsG L w ao xs) (k : FrS S w w') (hs : ∀ b, blk ao = some b → ¬ S b) : ReadsG L w' ao xs := by
  refine ⟨h.len, fun i hi => ?_⟩
  obtain ⟨b, off, e, hc⟩ := h.at_ i hi
  refine ⟨b, off, e, fun j hj q hq => ?_⟩
  have h0 := hc j hj q hq
  have hlt : q < (L.cs xs[j]).length := by rw [L.len]; exact hq
  rw [List.getElem?_eq_getElem hlt] at h0 ⊢
  exact k.cell h0 (hs b (by rw [e]; rfl))
theorem FrS.wider {S S' : Nat → Prop} {w w' : World} (h : FrS S w w') (hs : ∀ x, S x → S' x) : FrS S' w w' := ⟨h.os, h.tape, h.output, h.size, fun k hk hn => h.block k hk (fun q => hn (hs k q))⟩
theorem MapT.mono {w : World} {b n n' : Nat} {G : Int → Int → Int → Nat} (h : MapT w b n G) (hn : n ≤ n') : MapT w b n' G := by
  obtain ⟨D, ⟨es, clock, hb, F, hs, hD⟩, h2⟩ := h
  exact ⟨D, ⟨es, clock, hb, F, Nat.le_trans hs hn, hD⟩, h2⟩
def setN (f : Nat → Nat) (d N : Nat) : Nat → Nat := fun q => if q = d then N else f q
section
variable {lo : Nat × Nat} {w w' : World} {p gm b b1 b2 b3 b4 nb nm : Nat} {m : Scn} {st la : Nat → Nat} {G : Int → Int → Int → Nat}
theorem PastW.setLa (h : PastW lo w p gm b b1 b2 b3 b4 nb nm m st la G) (d N : Nat) (hd : d < 16) (k : Wrote 220 p (81 + d * 5) 5 w w') (hP : PsC w' p (81 + d * 5) N) : PastW lo w' p gm b b1 b2 b3 b4 nb nm m st (setN la d N) G := by
  obtain ⟨n1, n2, n3, n4⟩ := h.ne
  refine ⟨h.bd.keep1 k.by_ (by omega) n3 n4, (k.rest 0 (by omega)).trans h.pt, (k.rest 161 (by omega)).trans h.mp, fun g hg => (h.st g hg).rest k (by omega), fun g hg => ?_, k.row, h.mt.keep k.by_ (by simp; omega), h.ne⟩
  unfold setN
  by_cases e : g = d
  · subst e
    rw [if_pos rfl]
    exact hP
  · rw [if_neg e]
    exact (h.la g hg).rest k (by omega)
theorem PastW.setSt (h : PastW lo w p gm b b1 b2 b3 b4 nb nm m st la G) (d N : Nat) (hd : d < 16) (k : Wrote 220 p (1 + d * 5) 5 w w') (hP : PsC w' p (1 + d * 5) N) : PastW lo w' p gm b b1 b2 b3 b4 nb nm m (setN st d N) la G := by
  obtain ⟨n1, n2, n3, n4⟩ := h.ne
  refine ⟨h.bd.keep1 k.by_ (by omega) n3 n4, (k.rest 0 (by omega)).trans h.pt, (k.rest 161 (by omega)).trans h.mp, fun g hg => ?_, fun g hg => (h.la g hg).rest k (by omega), k.row, h.mt.keep k.by_ (by simp; omega), h.ne⟩
  unfold setN
  by_cases e : g = d
  · subst e
    rw [if_pos rfl]
    exact hP
  · rw [if_neg e]
    exact (h.st g hg).rest k (by omega)
theorem PastW.setG (h : PastW lo w p gm b b1 b2 b3 b4 nb nm m st la G) {nm' : Nat} {G' : Int → Int → Int → Nat} (k : w.grownBy w' (some gm)) (hM : MapT w' gm nm' G') : PastW lo w' p gm b b1 b2 b3 b4 nb nm' m st la G' := by
  obtain ⟨n1, n2, n3, n4⟩ := h.ne
  have hne : ¬ (some p = some gm) := by simp only [Option.some.injEq]; omega
  have hpl := h.row.lt
  obtain ⟨cur, hc⟩ := h.row
  exact ⟨h.bd.keep1 k (by omega) (by omega) n4, k.cell h.pt hne, k.cell h.mp hne, fun g hg q hq => k.cell (h.st g hg q hq) hne, fun g hg q hq => k.cell (h.la g hg q hq) hne, ⟨cur, (k.block p hpl (fun q => hne (by rw [q]))).trans hc⟩, hM, h.ne⟩
theorem PastW.setB (h : PastW lo w p gm b b1 b2 b3 b4 nb nm m st la G) {nb' x : Nat} {m' : Scn} (k : w.grownBy w' (some x)) (hx : On b b1 b2 b3 b4 x) (hB : BoardW lo w' b b1 b2 b3 b4 nb' m') : PastW lo w' p gm b b1 b2 b3 b4 nb' nm m' st la G := by
  obtain ⟨n1, n2, n3, n4⟩ := h.ne
  have hl := h.bd.lt
  have hxb : x ≤ b := by unfold On at hx; omega
  have hne : ¬ (some p = some x) := by simp only [Option.some.injEq]; omega
  have hpl := h.row.lt
  obtain ⟨cur, hc⟩ := h.row
  exact ⟨hB, k.cell h.pt hne, k.cell h.mp hne, fun g hg q hq => k.cell (h.st g hg q hq) hne, fun g hg q hq => k.cell (h.la g hg q hq) hne, ⟨cur, (k.block p hpl (fun q => hne (by rw [q]))).trans hc⟩, h.mt.keep k (by simp only [ne_eq, Option.some.injEq]; omega), h.ne⟩
end
theorem box_after {W u : World} {o : Obj} (f : Fr (W.alloc o) u) : u.heap[W.heap.size]? = some o := (f.block _ (Array.getElem?_eq_some_iff.1 (heap_alloc_new W o)).1 (by simp)).trans (heap_alloc_new W o)
def PS (p gm b b1 b2 b3 b4 x : Nat) : Prop := x = p ∨ x = gm ∨ On b b1 b2 b3 b4 x
def laE (la : Nat → Nat) (J : Nat) (gs : List Int) : Nat → Nat := gs.foldl (fun f g => setN f g.toNat (2 ^ J)) la
def giE (G : Int → Int → Int → Nat) (J : Nat) (ts : List Tch) : Int → Int → Int → Nat := ts.foldl (fun G t => if t.gv = true then (fun a c d => if a = t.sp ∧ c = t.ob ∧ d = t.sl then G t.sp t.ob t.sl ||| 2 ^ J else G a c d) else G) G
theorem laE_one (la : Nat → Nat) (J : Nat) (gs : List Int) (g : Int) : laE la J (gs ++ [g]) = setN (laE la J gs) g.toNat (2 ^ J) := by simp [laE]
theorem giE_one (G : Int → Int → Int → Nat) (J : Nat) (ts : List Tch) (t : Tch) : giE G J (ts ++ [t]) = if t.gv = true then (fun a c d => if a = t.sp ∧ c = t.ob ∧ d = t.sl then giE G J ts t.sp t.ob t.sl ||| 2 ^ J else giE G J ts a c d) else giE G J ts := by simp [giE]

set_option maxRecDepth 20000 in
set_option maxHeartbeats 8000000 in
theorem pastAdd_any {lo : Nat × Nat} {p gm b b1 b2 b3 b4 nb nm : Nat} {m : Scn} {st la : Nat → Nat} {G : Int → Int → Int → Nat} (J : Nat) (hJ : J < 320) (e : Ev) (ao : Option Addr) (n c : Nat) (ts : List Tch) (w : World) (h : PastW lo w p gm b b1 b2 b3 b4 nb nm m st la G) (he : codeIn m e = 0) (ho : e.k = 1 → 0 ≤ e.o ∧ e.o ≤ 15)
    (hn : ts.length = n) (hr : ReadsG layT w ao ts) (hab : ∀ k, blk ao = some k → lo.2 ≤ k) (ht : ∀ t ∈ ts, T64 t) (hs : Shapes w) (hnb : nb < 4000000) (hnm : nm + ts.length < 1000000) :
    Calls Tryz.prog 196 #[.pointer (some ⟨p, 0, none⟩), .int .i64 J, .agg #[.int .i64 e.k, .int .i64 e.g, .int .i64 e.o, .int .i64 e.w, .int .i64 e.l, .int .i64 e.s, .int .i64 e.f, .int .i64 e.t], .slice ao n c] w fun x w' => x = .returned (.tuple #[]) ∧ PastW lo w' p gm b b1 b2 b3 b4 (nb + 1) (nm + ts.length) (doS m e) (if e.k = 1 then setN st e.o.toNat (2 ^ J) else st) (laE la J (gorsL e)) (giE G J ts) ∧ FrS (PS p gm b b1 b2 b3 b4) w w' := by
  subst hn
  have hev := (code_parts he).1
  have cG := fun u (f : Fr w u) => implGors_any e u (hs.fr f)
  have hgi : ∀ g ∈ gorsL e, 0 ≤ g ∧ g ≤ 15 := fun g hg => gors_in hev hg
  have hgl := gors_len e
  have cO := fun u => only_any J hJ u
  have cD := fun u st la G nm' (x : PastW lo u p gm b b1 b2 b3 b4 nb nm' m st la G) => do_any e u x.bd he hnb
  obtain ⟨gs, hgs⟩ : ∃ gs, gs = gorsL e := ⟨_, rfl⟩
  simp only [← hgs] at cG hgi hgl ⊢
  clear hgs hs he hev
  obtain ⟨D, hD⟩ : ∃ D, D = doS m e := ⟨_, rfl⟩
  simp only [← hD] at cD ⊢
  clear hD
  obtain ⟨k, gr, o, wi, l, sz, f, t⟩ := e
  simp only at cG cD ho ⊢
  obtain ⟨W, hW⟩ : ∃ W, W = w.alloc (.cells #[.int .i64 k, .int .i64 gr, .int .i64 o, .int .i64 wi, .int .i64 l, .int .i64 sz, .int .i64 f, .int .i64 t] 31) := ⟨_, rfl⟩
  have f0 : Fr w W := by rw [hW]; exact Fr.alloc w _
  have kE : EvAt W w.heap.size ⟨k, gr, o, wi, l, sz, f, t⟩ := by rw [hW]; exact EvAt.new w ⟨k, gr, o, wi, l, sz, f, t⟩ 31
  go_enter Tryz.func196, Tryz.ntmps196
  go_wp2_with fail
  rw [← hW]
  clear hW
  refine (cO _).mono ?_
  rintro x u1 ⟨rfl, f1⟩
  clear cO
  have kE1 := kE.fr f1
  have kE := kE.fr f1
  obtain ⟨V, hV⟩ : ∃ V, V = u1.alloc (.cells #[.int .u64 (wd (2 ^ J) 0), .int .u64 (wd (2 ^ J) 1), .int .u64 (wd (2 ^ J) 2), .int .u64 (wd (2 ^ J) 3), .int .u64 (wd (2 ^ J) 4)] 110) := ⟨_, rfl⟩
  have f2 : Fr u1 V := by rw [hV]; exact Fr.alloc u1 _
  have kE := kE.fr f2
  have rH : V.heap[u1.heap.size]? = some (.cells #[.int .u64 (wd (2 ^ J) 0), .int .u64 (wd (2 ^ J) 1), .int .u64 (wd (2 ^ J) 2), .int .u64 (wd (2 ^ J) 3), .int .u64 (wd (2 ^ J) 4)] 110 (0, 0)) := by rw [hV]; exact heap_alloc_new u1 _
  have f02 := f0.trans (f1.trans f2)
  obtain ⟨c0, c1, c2, c3, c4, c5, c6, c7⟩ := id kE
  simp only at c0 c1 c2 c3 c4 c5 c6 c7
  rw [hV] at c0 c1 c2 c3 c4 c5 c6 c7
  go_wp2_with fail
  rw [← hV]
  obtain ⟨B, hB⟩ : ∃ B, B = u1.heap.size := ⟨_, rfl⟩
  rw [← hB] at rH ⊢
  have HB : Hid (w.heap.size < B) := by have h9 : w.heap.size < u1.heap.size := World.block_lt_of_cell? u1 _ kE1.1; exact (by omega : w.heap.size < B)
  obtain ⟨A, hA⟩ : ∃ A, A = w.heap.size := ⟨_, rfl⟩
  rw [← hA] at kE ⊢
  have HA : Hid (A = w.heap.size) := hA
  clear hV hB hA c0 c1 c2 c3 c4 c5 c6 c7 f0 f1 f2
  refine (cG _ f02).mono ?_
  rintro x u2 ⟨gb, rfl, og, fg⟩
  clear cG
  have h2 := h.fr (f02.trans fg)
  have F2 := f02.trans fg
  have gR := og.reads
  have glt := own_lt og
  have HG : Hid (w.heap.size ≤ gb) := by have := f02.size; exact (by omega : w.heap.size ≤ gb)
  have HPL : Hid (p < w.heap.size ∧ gm < w.heap.size ∧ b < w.heap.size) := ⟨h.row.lt, h.mt.lt, h.bd.blt⟩
  have kE2 := kE.fr fg
  have pB2 : PsC u2 B 0 (2 ^ J) := PsC.fr (fun q hq => by
    rw [cell_of_row _ _ _ _ _ _ rH]
    rcases q with _ | _ | _ | _ | _ | q <;> first | rfl | omega) fg
  have hr2 := hr.fr F2
  have HK : Hid (∀ u S, FrS S u2 u → (∀ x, w.heap.size ≤ x → ¬ S x) → EvAt u A ⟨k, gr, o, wi, l, sz, f, t⟩ ∧ PsC u B 0 (2 ^ J) ∧ Reads u (some ⟨gb, 0, none⟩) gs) := by
    intro u S fu hS
    have nA : ¬ S A := hS A (by have := HA.out; omega)
    have nB : ¬ S B := hS B (by have := HB.out; omega)
    have nG : ¬ S gb := hS gb HG.out
    obtain ⟨c0, c1, c2, c3, c4, c5, c6, c7⟩ := kE2
    exact ⟨⟨fu.cell c0 nA, fu.cell c1 nA, fu.cell c2 nA, fu.cell c3 nA, fu.cell c4 nA, fu.cell c5 nA, fu.cell c6 nA, fu.cell c7 nA⟩, fun q hq => fu.cell (pB2 q hq) nB, gR.keepS fu (fun x hx => by
      simp only [blk, Option.map_some, Option.some.injEq] at hx
      subst hx
      exact nG)⟩
  have HR : Hid (∀ u, FrS (fun x => x = p ∨ x = gm) u2 u → ReadsG layT u ao ts) := fun u fu => hr2.keepS fu (fun x hx q => by
    have := hab x hx
    have := h.ne
    omega)
  clear h glt og fg f02 rH kE hr kE1 kE2 pB2 hr2 hab gR
  go_wp2_with fail
  go_loopw [19] (fun i wr => ∃ q : Nat, q ≤ gs.length ∧ i = .int .i64 q ∧ PastW lo wr p gm b b1 b2 b3 b4 nb nm m st (laE la J (gs.take q)) G ∧ FrS (fun x => x = p) u2 wr) (fun i _ => gs.length - (intOf i).toNat)
  case atStart => exact ⟨0, Nat.zero_le _, rfl, by simpa [laE] using h2, FrS.refl _ _⟩
  case round =>
    obtain ⟨q, hq, rfl, hP, hF⟩ := hrel
    obtain ⟨-, pB, gR⟩ := HK.out wr _ hF (fun x hx e => by subst e; have := HPL.out; omega)
    by_cases hlt : q < gs.length
    · obtain ⟨bb, off, e0, hc⟩ := gR.at_ q hlt
      simp only [Option.some.injEq, Addr.mk.injEq, and_true] at e0
      obtain ⟨rfl, rfl⟩ := e0
      have hck := hc q hlt
      rw [getD_at hlt] at hck
      have hgb := hgi _ (List.getElem_mem hlt)
      have HT : Hid (laE la J (gs.take (q + 1)) = setN (laE la J (gs.take q)) gs[q].toNat (2 ^ J)) := by
        rw [List.take_succ_eq_append_getElem hlt, laE_one]
        exact rfl
      obtain ⟨d, hd⟩ : ∃ d : Nat, gs[q] = d := ⟨gs[q].toNat, by omega⟩
      rw [hd] at hck hgb HT
      simp only [Int.toNat_natCast] at HT
      have hd16 : d < 16 := by omega
      simp only [Nat.zero_add] at hck
      have hqi : (q : Int) < gs.length := by omega
      have hl := hP.la d hd16
      obtain ⟨y1, y2⟩ := put5P (2 ^ J) hP.row hl
      have HY : Hid _ := And.intro (hP.setLa d (2 ^ J) hd16 y2 y1) (hF.trans (grown_toS y2.by_ rfl))
      have a0 := hl 0 (by omega); have a1 := hl 1 (by omega); have a2 := hl 2 (by omega); have a3 := hl 3 (by omega); have a4 := hl 4 (by omega)
      have x0 := pB 0 (by omega); have x1 := pB 1 (by omega); have x2 := pB 2 (by omega); have x3 := pB 3 (by omega); have x4 := pB 4 (by omega)
      have z0 := hP.row.free (81 + d * 5); have z1 := hP.row.free (81 + d * 5 + 1); have z2 := hP.row.free (81 + d * 5 + 2); have z3 := hP.row.free (81 + d * 5 + 3); have z4 := hP.row.free (81 + d * 5 + 4)
      simp only [Nat.add_zero, Nat.zero_add] at a0 x0 x1 x2 x3 x4
      clear hc hd hgb gR hl y1 y2 hP pB
      go_wp2_with fail
      go_region
      go_wp2_with fail
      go_roundw
      case rel => exact ⟨q + 1, by omega, by go_num, by rw [HT.out]; exact HY.out.1.fr (Fr.drew _), HY.out.2.trans (Fr.drew _).toS⟩
      case measure => simp [intOf]; omega
    · have e : q = gs.length := by omega
      subst e
      rw [List.take_length] at hP
      obtain ⟨LA, hLA⟩ : ∃ L, L = laE la J gs := ⟨_, rfl⟩
      simp only [← hLA] at hP
      have HLA : Hid (LA = laE la J gs) := hLA
      obtain ⟨SX, hSX⟩ : ∃ L, L = if k = 1 then setN st o.toNat (2 ^ J) else st := ⟨_, rfl⟩
      have HSX : Hid (SX = if k = 1 then setN st o.toNat (2 ^ J) else st) := hSX
      clear hLA gR hgi hgl hq hlt hSX
      obtain ⟨⟨c0, c1, c2, c3, c4, c5, c6, c7⟩, -⟩ := HK.out wr _ hF (fun x hx e => by subst e; have := HPL.out; omega)
      simp only at c0 c1 c2 c3 c4 c5 c6 c7
      have key : k = 1 ∨ k ≠ 1 := by omega
      rcases key with hk1 | hk1
      case' inl =>
        have hkb : (k == 1) = true := by simp [hk1]
        have ho := ho hk1
        obtain ⟨d, hd⟩ : ∃ d : Nat, o = d := ⟨o.toNat, by omega⟩
        have hS : SX = setN st d (2 ^ J) := by rw [HSX.out, if_pos hk1, hd]; simp
        rw [hS] at HSX
        have hd16 : d < 16 := by omega
        have hl := hP.st d hd16
        obtain ⟨y1, y2⟩ := put5P (2 ^ J) hP.row hl
        have HY : Hid _ := And.intro (hP.setSt d (2 ^ J) hd16 y2 y1) (hF.trans (grown_toS y2.by_ rfl))
        have a0 := hl 0 (by omega); have a1 := hl 1 (by omega); have a2 := hl 2 (by omega); have a3 := hl 3 (by omega); have a4 := hl 4 (by omega)
        have x0 := pB 0 (by omega); have x1 := pB 1 (by omega); have x2 := pB 2 (by omega); have x3 := pB 3 (by omega); have x4 := pB 4 (by omega)
        have z0 := hP.row.free (1 + d * 5); have z1 := hP.row.free (1 + d * 5 + 1); have z2 := hP.row.free (1 + d * 5 + 2); have z3 := hP.row.free (1 + d * 5 + 3); have z4 := hP.row.free (1 + d * 5 + 4)
        simp only [Nat.add_zero, Nat.zero_add] at a0 x0 x1 x2 x3 x4
        rw [hd] at c2
        clear hl y1 y2 hP pB hk1 ho h2 hS hd
        go_wp2_with fail
        go_region
        have h3 := HY.out.1.fr (Fr.drew _)
        have F3 := (HY.out.2.trans (Fr.drew _).toS).wider (S' := fun x => x = p ∨ x = gm) (fun x q => .inl q)
        clear HY a0 a1 a2 a3 a4 x0 x1 x2 x3 x4 z0 z1 z2 z3 z4 c0 c1 c2 c3 c4 c5 c6 c7 hF
        go_wp2_with fail
        obtain ⟨Z, hZ⟩ : ∃ Z, Z = (((((wr.setCell ⟨p, 1 + d * 5, none⟩ (.int .u64 (wd (2 ^ J) 0))).setCell ⟨p, 1 + d * 5 + 1, none⟩ (.int .u64 (wd (2 ^ J) 1))).setCell ⟨p, 1 + d * 5 + 2, none⟩ (.int .u64 (wd (2 ^ J) 2))).setCell ⟨p, 1 + d * 5 + 3, none⟩ (.int .u64 (wd (2 ^ J) 3))).setCell ⟨p, 1 + d * 5 + 4, none⟩ (.int .u64 (wd (2 ^ J) 4))).drew := ⟨_, rfl⟩
        rw [← hZ] at h3 F3 ⊢
        clear hZ hd16
        obtain ⟨SY, hSY⟩ : ∃ S, S = setN st d (2 ^ J) := ⟨_, rfl⟩
        have HSX : Hid (SY = if k = 1 then setN st o.toNat (2 ^ J) else st) := hSY.trans HSX.out
        rw [← hSY] at h3
        clear hSY
      case' inr =>
        have hkb : (k == 1) = false := by simpa using hk1
        have hS : SX = st := by rw [HSX.out, if_neg hk1]
        rw [hS] at HSX
        have h3 := hP
        have F3 := hF.wider (S' := fun x => x = p ∨ x = gm) (fun x q => .inl q)
        clear hk1 ho h2 hP hF pB hS
        go_wp2_with fail
        obtain ⟨Z, hZ⟩ : ∃ Z, Z = wr := ⟨_, rfl⟩
        rw [← hZ] at h3 F3 c0 c1 c2 c3 c4 c5 c6 c7 ⊢
        clear hZ c0 c1 c2 c3 c4 c5 c6 c7
        obtain ⟨SY, hSY⟩ : ∃ S, S = st := ⟨_, rfl⟩
        have HSX : Hid (SY = if k = 1 then setN st o.toNat (2 ^ J) else st) := hSY.trans HSX.out
        rw [← hSY] at h3
        clear hSY
      all_goals
        go_loopw [42] (fun i wr => ∃ q : Nat, q ≤ ts.length ∧ i = .int .i64 q ∧ PastW lo wr p gm b b1 b2 b3 b4 nb (nm + q) m SY LA (giE G J (ts.take q)) ∧ FrS (fun x => x = p ∨ x = gm) u2 wr) (fun i _ => ts.length - (intOf i).toNat)
        case atStart => exact ⟨0, Nat.zero_le _, rfl, by simpa [giE] using h3, F3⟩
        case round =>
          obtain ⟨q, hq, rfl, hP, hF⟩ := hrel
          by_cases hlt : q < ts.length
          · obtain ⟨bb, off, rfl, x0, x1, x2, x3, x4⟩ := tc_at (HR.out _ hF) q hlt
            have hti := ht _ (List.getElem_mem hlt)
            have HT : Hid (giE G J (ts.take (q + 1)) = if ts[q].gv = true then (fun a c d => if a = ts[q].sp ∧ c = ts[q].ob ∧ d = ts[q].sl then giE G J (ts.take q) ts[q].sp ts[q].ob ts[q].sl ||| 2 ^ J else giE G J (ts.take q) a c d) else giE G J (ts.take q)) := by
              rw [List.take_succ_eq_append_getElem hlt, giE_one]
              exact rfl
            obtain ⟨T, hT⟩ : ∃ T, T = ts[q] := ⟨_, rfl⟩
            rw [← hT] at x0 x1 x2 x3 x4 hti HT
            clear hT
            obtain ⟨sp, ob, sl, tk, gv⟩ := T
            obtain ⟨M, hM⟩ : ∃ M, M = giE G J (ts.take q) := ⟨_, rfl⟩
            simp only [← hM] at x0 x1 x2 x3 x4 hP HT
            clear hM
            have hqi : (q : Int) < ts.length := by omega
            have f5 := Fr.alloc wr (.cells #[.int .i64 sp, .int .i64 ob, .int .i64 sl, .bool tk, .bool gv] 226)
            have k5 := heap_alloc_new wr (.cells #[.int .i64 sp, .int .i64 ob, .int .i64 sl, .bool tk, .bool gv] 226)
            cases gv
            · have HT2 : Hid (giE G J (ts.take (q + 1)) = M) := by rw [HT.out]; exact if_neg (by simp)
              have HP : Hid _ := hP.fr f5
              clear HT k5 h3 F3 hP
              go_wp2_with fail
              go_roundw
              case rel => exact ⟨q + 1, by omega, by go_num, by rw [HT2.out]; exact { HP.out with mt := HP.out.mt.mono (by omega) }, hF.trans f5.toS⟩
              case measure => simp [intOf]; omega
            · have HT2 : Hid (giE G J (ts.take (q + 1)) = fun a c d => if a = sp ∧ c = ob ∧ d = sl then M sp ob sl ||| 2 ^ J else M a c d) := by rw [HT.out]; exact if_pos rfl
              have cT := fun u => thing_any ⟨sp, ob, sl, tk, true⟩ u
              simp only at cT
              clear HT h3 F3
              go_wp2_with fail
              obtain ⟨V2, hV2⟩ : ∃ V, V = wr.alloc (.cells #[.int .i64 sp, .int .i64 ob, .int .i64 sl, .bool tk, .bool true] 226) := ⟨_, rfl⟩
              rw [← hV2] at f5 k5 ⊢
              obtain ⟨TB, hTB⟩ : ∃ TB, TB = wr.heap.size := ⟨_, rfl⟩
              rw [← hTB] at k5 ⊢
              have HTB : Hid (w.heap.size ≤ TB) := by have := F2.size; have := hF.size; exact (by omega : w.heap.size ≤ TB)
              clear hV2 hTB x0 x1 x2 x3 x4
              have P5 := hP.fr f5
              have F5 := hF.trans f5.toS
              have HM : Hid (∀ u, Fr V2 u → (Instr.lookup 218 (.map (some gm)) (.agg #[.int .i64 sp, .int .i64 ob, .int .i64 sl, .bool false, .bool false]) false).run Tryz.prog u = .ok (.agg #[.int .u64 (wd (M sp ob sl) 0), .int .u64 (wd (M sp ob sl) 1), .int .u64 (wd (M sp ob sl) 2), .int .u64 (wd (M sp ob sl) 3), .int .u64 (wd (M sp ob sl) 4)]) u ∧ u.cell? ⟨p, 161, none⟩ = some (.map (some gm)) ∧ u.cell? ⟨TB, 0, none⟩ = some (.int .i64 sp) ∧ u.cell? ⟨TB, 1, none⟩ = some (.int .i64 ob) ∧ u.cell? ⟨TB, 2, none⟩ = some (.int .i64 sl) ∧ u.cell? ⟨TB, 3, none⟩ = some (.bool tk) ∧ u.cell? ⟨TB, 4, none⟩ = some (.bool true)) := fun u fu => ⟨(P5.fr fu).mt.look hti.1 hti.2.1 hti.2.2, (P5.fr fu).mp, fu.cell (cell_of_row _ _ 0 _ _ _ k5), fu.cell (cell_of_row _ _ 1 _ _ _ k5), fu.cell (cell_of_row _ _ 2 _ _ _ k5), fu.cell (cell_of_row _ _ 3 _ _ _ k5), fu.cell (cell_of_row _ _ 4 _ _ _ k5)⟩
              clear hP hF f5
              obtain ⟨-, t9, t0, t1, t2, t3, t4⟩ := HM.out V2 (Fr.refl V2)
              obtain ⟨-, q9, q0, q1, q2, q3, q4⟩ := HM.out (V2.alloc (.cells #[.int .u64 0, .int .u64 0, .int .u64 0, .int .u64 0, .int .u64 0] 110)) (Fr.alloc V2 _)
              go_region_held3 (fun u => u.cell? ⟨p, 161, none⟩ = some (.map (some gm)) ∧ u.cell? ⟨TB, 0, none⟩ = some (.int .i64 sp) ∧ u.cell? ⟨TB, 1, none⟩ = some (.int .i64 ob) ∧ u.cell? ⟨TB, 2, none⟩ = some (.int .i64 sl) ∧ u.cell? ⟨TB, 3, none⟩ = some (.bool tk) ∧ u.cell? ⟨TB, 4, none⟩ = some (.bool true)) (go_keep)
                (first | (go_at_call 206; refine (cT _).mono ?_; rintro x u5 ⟨rfl, f6⟩; have g6 : Fr V2 u5 := (by first | exact (Fr.drew V2).trans f6 | exact ((Fr.alloc V2 _).trans (Fr.drew _)).trans f6); obtain ⟨lk, z9, z0, z1, z2, z3, z4⟩ := HM.out u5 g6; obtain ⟨lk2, p9, p0, p1, p2, p3, p4⟩ := HM.out _ (g6.trans (Fr.alloc u5 (.cells #[.int .u64 0, .int .u64 0, .int .u64 0, .int .u64 0, .int .u64 0] 110))); obtain ⟨-, y9, y0, y1, y2, y3, y4⟩ := HM.out _ (g6.trans (Fr.alloc u5 (.cells #[.int .u64 (wd (M sp ob sl) 0), .int .u64 (wd (M sp ob sl) 1), .int .u64 (wd (M sp ob sl) 2), .int .u64 (wd (M sp ob sl) 3), .int .u64 (wd (M sp ob sl) 4)] 110))); (first | (have rb := box_after (W := V2) ((Fr.drew _).trans f6); have n0 := cell_of_row _ _ 0 _ _ _ rb; have n1 := cell_of_row _ _ 1 _ _ _ rb; have n2 := cell_of_row _ _ 2 _ _ _ rb; have n3 := cell_of_row _ _ 3 _ _ _ rb; have n4 := cell_of_row _ _ 4 _ _ _ rb; have v0 := frozen_of_row _ _ 0 _ _ rb; have v1 := frozen_of_row _ _ 1 _ _ rb; have v2 := frozen_of_row _ _ 2 _ _ rb; have v3 := frozen_of_row _ _ 3 _ _ rb; have v4 := frozen_of_row _ _ 4 _ _ rb; obtain ⟨-, o9, o0, o1, o2, o3, o4⟩ := HM.out _ (g6.then (put5 u5 V2.heap.size (.int .u64 (wd (M sp ob sl) 0)) (.int .u64 (wd (M sp ob sl) 1)) (.int .u64 (wd (M sp ob sl) 2)) (.int .u64 (wd (M sp ob sl) 3)) (.int .u64 (wd (M sp ob sl) 4))) (fun j hj => by cases hj; exact Nat.le_refl _))) | skip)))
              all_goals
                first
                  | (obtain ⟨U, hU⟩ : ∃ U, U = u5.alloc (.cells #[.int .u64 (wd (M sp ob sl) 0), .int .u64 (wd (M sp ob sl) 1), .int .u64 (wd (M sp ob sl) 2), .int .u64 (wd (M sp ob sl) 3), .int .u64 (wd (M sp ob sl) 4)] 110) := ⟨_, rfl⟩
                     have rN : U.heap[u5.heap.size]? = some (.cells #[.int .u64 (wd (M sp ob sl) 0), .int .u64 (wd (M sp ob sl) 1), .int .u64 (wd (M sp ob sl) 2), .int .u64 (wd (M sp ob sl) 3), .int .u64 (wd (M sp ob sl) 4)] 110 (0, 0)) := (by rw [hU]; exact heap_alloc_new u5 _)
                     have gU : Fr V2 U := (by rw [hU]; exact g6.trans (Fr.alloc u5 _))
                     have nN : V2.heap.size ≤ u5.heap.size := g6.size
                     rw [← hU]
                     obtain ⟨NB, hNB⟩ : ∃ NB, NB = u5.heap.size := ⟨_, rfl⟩
                     rw [← hNB] at rN nN ⊢
                     clear hU hNB)
                  | (obtain ⟨U, hU⟩ : ∃ U, U = (((((u5.setCell ⟨V2.heap.size, 0, none⟩ (.int .u64 (wd (M sp ob sl) 0))).setCell ⟨V2.heap.size, 1, none⟩ (.int .u64 (wd (M sp ob sl) 1))).setCell ⟨V2.heap.size, 2, none⟩ (.int .u64 (wd (M sp ob sl) 2))).setCell ⟨V2.heap.size, 3, none⟩ (.int .u64 (wd (M sp ob sl) 3))).setCell ⟨V2.heap.size, 4, none⟩ (.int .u64 (wd (M sp ob sl) 4))) := ⟨_, rfl⟩
                     have rN : U.heap[V2.heap.size]? = some (.cells #[.int .u64 (wd (M sp ob sl) 0), .int .u64 (wd (M sp ob sl) 1), .int .u64 (wd (M sp ob sl) 2), .int .u64 (wd (M sp ob sl) 3), .int .u64 (wd (M sp ob sl) 4)] 110 (0, 0)) := (by rw [hU]; exact row5 rb _ _ _ _ _)
                     have gU : Fr V2 U := (by rw [hU]; exact g6.then (put5 u5 V2.heap.size _ _ _ _ _) (fun j hj => by cases hj; exact Nat.le_refl _))
                     rw [← hU]
                     obtain ⟨NB, hNB⟩ : ∃ NB, NB = V2.heap.size := ⟨_, rfl⟩
                     have nN : V2.heap.size ≤ NB := (by omega)
                     rw [← hNB] at rN ⊢
                     clear hU hNB n0 n1 n2 n3 n4 v0 v1 v2 v3 v4 rb o9 o0 o1 o2 o3 o4)
                clear t9 t0 t1 t2 t3 t4 lk lk2 z9 z0 z1 z2 z3 z4 p9 p0 p1 p2 p3 p4 y9 y0 y1 y2 y3 y4 q9 q0 q1 q2 q3 q4 f6 g6
                have P6 := P5.fr gU
                have F6 := F5.trans gU.toS
                have HNB : Hid (w.heap.size ≤ NB ∧ TB < NB) := ⟨by have := HTB.out; have := (Array.getElem?_eq_some_iff.1 k5).1; omega, by have := (Array.getElem?_eq_some_iff.1 k5).1; omega⟩
                obtain ⟨-, pB, -⟩ := HK.out U _ F6 (fun x hx e => by have := HPL.out; omega)
                have x0 := pB 0 (by omega); have x1 := pB 1 (by omega); have x2 := pB 2 (by omega); have x3 := pB 3 (by omega); have x4 := pB 4 (by omega)
                simp only [Nat.zero_add] at x0 x1 x2 x3 x4
                have cA := addAll_any NB 0 (M sp ob sl) (2 ^ J) 110 U (fun c hc => by
                  rw [cell_of_row _ _ _ _ _ _ rN]
                  rcases c with _ | _ | _ | _ | _ | c <;> first | rfl | omega) ⟨_, rN⟩
                clear pB
                go_wp2_with fail
                refine cA.mono ?_
                rintro x u7 ⟨rfl, N7, W7⟩
                clear cA x0 x1 x2 x3 x4 rN
                have g7 : Fr V2 u7 := gU.then W7.by_ (fun j hj => by cases hj; exact nN)
                have HM7 : Hid (∀ u, Fr u7 u → u.cell? ⟨p, 161, none⟩ = some (.map (some gm)) ∧ (u.cell? ⟨TB, 0, none⟩ = some (.int .i64 sp) ∧ u.cell? ⟨TB, 1, none⟩ = some (.int .i64 ob) ∧ u.cell? ⟨TB, 2, none⟩ = some (.int .i64 sl) ∧ u.cell? ⟨TB, 3, none⟩ = some (.bool tk) ∧ u.cell? ⟨TB, 4, none⟩ = some (.bool true)) ∧ u.cell? ⟨NB, 0, none⟩ = some (.int .u64 (wd (M sp ob sl ||| 2 ^ J) 0)) ∧ u.cell? ⟨NB, 1, none⟩ = some (.int .u64 (wd (M sp ob sl ||| 2 ^ J) 1)) ∧ u.cell? ⟨NB, 2, none⟩ = some (.int .u64 (wd (M sp ob sl ||| 2 ^ J) 2)) ∧ u.cell? ⟨NB, 3, none⟩ = some (.int .u64 (wd (M sp ob sl ||| 2 ^ J) 3)) ∧ u.cell? ⟨NB, 4, none⟩ = some (.int .u64 (wd (M sp ob sl ||| 2 ^ J) 4))) := fun u fu => ⟨(HM.out u (g7.trans fu)).2.1, (HM.out u (g7.trans fu)).2.2, by simpa using fu.cell (N7 0 (by omega)), by simpa using fu.cell (N7 1 (by omega)), by simpa using fu.cell (N7 2 (by omega)), by simpa using fu.cell (N7 3 (by omega)), by simpa using fu.cell (N7 4 (by omega))⟩
                obtain ⟨t9, ⟨t0, t1, t2, t3, t4⟩, n0, n1, n2, n3, n4⟩ := HM7.out u7 (Fr.refl u7)
                have P7 := P5.fr g7
                have F7 := F5.trans g7.toS
                have ng : ¬ (some p = some gm) ∧ ¬ (some TB = some gm) ∧ ¬ (some NB = some gm) := by
                  have := HPL.out
                  have := HTB.out
                  have := HNB.out
                  have := P7.ne
                  simp only [Option.some.injEq]
                  omega
                obtain ⟨ng1, ng2, ng3⟩ := ng
                clear P6 F6 gU W7 N7 P5 F5 g7 HM nN
                go_wp2_with fail
                go_region_held3 (fun u => u.cell? ⟨p, 161, none⟩ = some (.map (some gm)) ∧ (u.cell? ⟨TB, 0, none⟩ = some (.int .i64 sp) ∧ u.cell? ⟨TB, 1, none⟩ = some (.int .i64 ob) ∧ u.cell? ⟨TB, 2, none⟩ = some (.int .i64 sl) ∧ u.cell? ⟨TB, 3, none⟩ = some (.bool tk) ∧ u.cell? ⟨TB, 4, none⟩ = some (.bool true)) ∧ u.cell? ⟨NB, 0, none⟩ = some (.int .u64 (wd (M sp ob sl ||| 2 ^ J) 0)) ∧ u.cell? ⟨NB, 1, none⟩ = some (.int .u64 (wd (M sp ob sl ||| 2 ^ J) 1)) ∧ u.cell? ⟨NB, 2, none⟩ = some (.int .u64 (wd (M sp ob sl ||| 2 ^ J) 2)) ∧ u.cell? ⟨NB, 3, none⟩ = some (.int .u64 (wd (M sp ob sl ||| 2 ^ J) 3)) ∧ u.cell? ⟨NB, 4, none⟩ = some (.int .u64 (wd (M sp ob sl ||| 2 ^ J) 4))) (go_keep)
                  (first | (go_at_call 206; refine (cT _).mono ?_; rintro x u8 ⟨rfl, f8⟩; have g8 := (Fr.drew u7).trans f8; obtain ⟨z9, ⟨z0, z1, z2, z3, z4⟩, m0, m1, m2, m3, m4⟩ := HM7.out u8 g8; obtain ⟨w9, hrun, M9, g9⟩ := (P7.fr g8).mt.put (by unfold maxLen; omega) hti.1 hti.2.1 hti.2.2 (M sp ob sl ||| 2 ^ J); have y9 := g9.cell z9 ng1; have y0 := g9.cell z0 ng2; have y1 := g9.cell z1 ng2; have y2 := g9.cell z2 ng2; have y3 := g9.cell z3 ng2; have y4 := g9.cell z4 ng2; have o0 := g9.cell m0 ng3; have o1 := g9.cell m1 ng3; have o2 := g9.cell m2 ng3; have o3 := g9.cell m3 ng3; have o4 := g9.cell m4 ng3; simp only [thV, psV] at hrun))
                have P9 := (P7.fr g8).setG g9 M9
                have F9 := (F7.trans g8.toS).trans (grown_toS g9 (Or.inr rfl))
                clear t9 t0 t1 t2 t3 t4 n0 n1 n2 n3 n4 z9 z0 z1 z2 z3 z4 m0 m1 m2 m3 m4 y9 y0 y1 y2 y3 y4 o0 o1 o2 o3 o4 hrun M9 g9 P7 F7 HM7 cT
                go_wp2_with fail
                go_roundw
                case rel => exact ⟨q + 1, by omega, by go_num, by rw [HT2.out]; exact P9, F9⟩
                case measure => simp [intOf]; omega
          · have e : q = ts.length := by omega
            subst e
            rw [List.take_length] at hP
            obtain ⟨⟨c0, c1, c2, c3, c4, c5, c6, c7⟩, -⟩ := HK.out wr _ hF (fun x hx e => by have := HPL.out; omega)
            simp only at c0 c1 c2 c3 c4 c5 c6 c7
            have pt := hP.pt
            clear h3 F3
            have cD := cD wr.drew _ _ _ _ (hP.fr (Fr.drew wr))
            have hOn : ∀ x, On b b1 b2 b3 b4 x → ¬ (some p = some x) ∧ ¬ (some A = some x) := by
              intro x hx
              have := HPL.out
              have := HA.out
              have := hP.ne
              have := hP.bd.lt
              unfold On at hx
              simp only [Option.some.injEq]
              omega
            go_wp2_with fail
            go_region_held3 (fun u => u.cell? ⟨p, 0, none⟩ = some (.pointer (some ⟨b, 0, none⟩)) ∧ u.cell? ⟨A, 0, none⟩ = some (.int .i64 k) ∧ u.cell? ⟨A, 1, none⟩ = some (.int .i64 gr) ∧ u.cell? ⟨A, 2, none⟩ = some (.int .i64 o) ∧ u.cell? ⟨A, 3, none⟩ = some (.int .i64 wi) ∧ u.cell? ⟨A, 4, none⟩ = some (.int .i64 l) ∧ u.cell? ⟨A, 5, none⟩ = some (.int .i64 sz) ∧ u.cell? ⟨A, 6, none⟩ = some (.int .i64 f) ∧ u.cell? ⟨A, 7, none⟩ = some (.int .i64 t)) (go_keep)
              (first | (go_at_call 102; refine cD.mono ?_; rintro x u9 ⟨rfl, B9, y, o9, g9⟩; obtain ⟨e1, e2⟩ := hOn y o9; have a9 := g9.cell pt e1; have a0 := g9.cell c0 e2; have a1 := g9.cell c1 e2; have a2 := g9.cell c2 e2; have a3 := g9.cell c3 e2; have a4 := g9.cell c4 e2; have a5 := g9.cell c5 e2; have a6 := g9.cell c6 e2; have a7 := g9.cell c7 e2))
            first | refine bodyPost_ret (results_none rfl _ _ _) rfl ?_ | go_end0
            have P9 := (hP.fr (Fr.drew wr)).setB g9 o9 B9
            rw [HSX.out, HLA.out] at P9
            exact ⟨rfl, P9, ((F2.toS.trans (hF.wider (fun x q => q.elim .inl (fun q => .inr (.inl q))))).trans (Fr.drew wr).toS).trans (grown_toS g9 (Or.inr (Or.inr o9)))⟩
end Go.Proofs.YtcofhmikdkkigaaGreatDoor
