/-
  The program's RacesIn and ShortIn.
-/
import Derived.Test.YtcofhmikdkkigaaGreatDoorPairsIn
import Derived.Test.YtcofhmikdkkigaaGreatDoorRaceL
import Derived.Test.YtcofhmikdkkigaaGreatDoorPrBG
import Derived.Test.YtcofhmikdkkigaaGreatDoorPrBJ
import Derived.Test.YtcofhmikdkkigaaGreatDoorPrBH
import Derived.Test.YtcofhmikdkkigaaGreatDoorPrBC
namespace Go.Proofs.YtcofhmikdkkigaaGreatDoor
open Go.RowKit

theorem fr_ofS {wb rb : Nat} {w w' : World} (h : FrS (SvS false wb rb) w w') : Fr w w' := ⟨h.os, h.tape, h.output, h.size, fun k hk _ => h.block k hk (fun q => by cases q.1)⟩
/-- Only blocks behind W were written. -/
theorem fr_behind {S : Nat → Prop} {W u w' : World} (f : Fr W u) (h : FrS S u w') (hS : ∀ b, S b → W.heap.size ≤ b) : Fr W w' :=
  ⟨h.os.trans f.os, h.tape.trans f.tape, h.output.trans f.output, Nat.le_trans f.size h.size, fun k hk _ => (h.block k (Nat.lt_of_lt_of_le hk f.size) (fun q => by have := hS k q; omega)).trans (f.block k hk (by simp))⟩

theorem ranks_cR (gb off n c : Nat) (es : List Ev) (w : World) (hn : es.length = n) (h : ReadsE w (some ⟨gb, off, none⟩) es) (hs : Shapes w) (hab : gb < w.heap.size) :
    ∀ W, Fr w W → Calls Tryz.prog 130 #[.slice (some ⟨gb, off, none⟩) n c] W fun x w' => ∃ g cap, x = .returned (.slice (some ⟨g, 0, none⟩) (lpL es).length cap) ∧ RkW w' g (lpL es).length (edN es) (befN (eE es)) ∧ W.heap.size ≤ g ∧ Fr W w' := by
  intro W fW
  by_cases hl : es.length ≤ 300
  · rw [lp_len hl]
    exact ranksOf_any _ n c es W hn (h.fr fW) (hs.fr fW) (fun k hk => by simp only [blk, Option.map_some, Option.some.injEq] at hk; have := fW.size; omega) hl
  · rw [lp_none hl]
    exact ranksOf_core _ es 0 W (by omega) (edgesOf_big _ n c es W hn hl)
theorem into_race' (gb off n c : Nat) (es : List Ev) (w : World) (hn : es.length = n) (hnc : n ≤ c) (h : ReadsE w (some ⟨gb, off, none⟩) es) (hs : Shapes w) (j : Nat) (hj : j < (lpL es).length) :
    Calls Tryz.prog 131 #[.slice (some ⟨gb, off, none⟩) n c, .int .i64 (j : Int), .agg #[.int .u64 (wd (befN (eE es) j) 0), .int .u64 (wd (befN (eE es) j) 1), .int .u64 (wd (befN (eE es) j) 2), .int .u64 (wd (befN (eE es) j) 3), .int .u64 (wd (befN (eE es) j) 4)], .func (.func 132) #[] #[]] w fun x w' => ∃ v, x = .returned v ∧ OwnG layPr w' w.heap.size v (pairsJ es [] false j) ∧ Fr w w' := by
  have h300 := lpL_300 es
  have hle : (lpL es).length ≤ es.length := by unfold lpL; rw [List.length_take]; omega
  have hlen := h.len
  refine (into_race false rfl 0 0 0 none 0 0 gb off n c j es [] w hn hnc (by omega) (by omega) (by omega) (fun u f => h.fr (fr_ofS f)) (fun u f => hs.fr (fr_ofS f)) (fun q => by cases q) rfl (by omega) (fun q => by cases q) (fun q => by cases q) (fun i hi _ => leg_gor (by omega)) (fun B g cap ps u hu => rev_any B g cap ps u hu)).mono ?_
  rintro x w' ⟨v, rfl, o, f, -⟩
  exact ⟨v, rfl, o, fr_ofS f⟩

set_option maxHeartbeats 1000000 in
theorem implRaces_any (gb off n c : Nat) (es : List Ev) (w : World) (hn : es.length = n) (hnc : n ≤ c) (h : ReadsE w (some ⟨gb, off, none⟩) es) (hs : Shapes w) (hab : gb < w.heap.size) :
    Calls Tryz.prog 22 #[.slice (some ⟨gb, off, none⟩) n c] w fun x w' => ∃ v, x = .returned v ∧ OwnG layPr w' w.heap.size v (pairsL (lpL es) [] false (lpL es).length) ∧ Fr w w' := by
  rw [pairsL_lp (Nat.le_refl _)]
  have cP := pairsIn_race gb off n c (lpL es).length es w (fun _ v _ => v = .func (.func 132) #[] #[]) (fun _ _ _ _ q _ => q) (ranks_cR gb off n c es w hn h hs hab) (lpL_300 es)
    (fun W u fW fu => (raceSieve_any u).mono fun x w' ⟨e, e2⟩ => ⟨_, e, rfl, by rw [e2]; exact Fr.refl _⟩)
    (fun j hj W v u fW fu hv => by
      subst hv
      refine (into_race' gb off n c es u hn hnc (h.fr (fW.trans fu)) (hs.fr (fW.trans fu)) j hj).mono ?_
      rintro x w' ⟨y, rfl, o, f⟩
      exact ⟨y, rfl, o.lower fu.size, fu.trans f⟩)
  obtain ⟨N, hN⟩ : ∃ N, N = (lpL es).length := ⟨_, rfl⟩
  obtain ⟨ps, hps⟩ : ∃ ps, ps = pairsL es [] false (lpL es).length := ⟨_, rfl⟩
  rw [← hps] at cP ⊢
  clear hps
  go_enter Tryz.func22, Tryz.ntmps22
  go_wp2_with fail
  refine cP.mono ?_
  rintro x u1 ⟨v, rfl, o1, f1⟩
  go_wp2_with fail
  go_ret
  exact ⟨v, rfl, o1, f1⟩

/-- A fresh sieve for short races. -/
def SvV (lo : Option Addr) (m lc : Nat) (W : World) (v : Value) (u : World) : Prop :=
  ∃ tb wb rb, v = .func (.func 133) #[] #[.pointer (some ⟨tb, 0, none⟩), .pointer (some ⟨wb, 0, none⟩), .pointer (some ⟨rb, 0, none⟩)] ∧ Sv8 tb wb rb lo m lc 0 (fun _ => 0) u ∧ (W.heap.size ≤ tb ∧ tb < u.heap.size) ∧ (W.heap.size ≤ wb ∧ wb < u.heap.size) ∧ (W.heap.size ≤ rb ∧ rb < u.heap.size)
theorem SvV.fr {lo : Option Addr} {m lc : Nat} {W : World} {v : Value} {u u' : World} (h : SvV lo m lc W v u) (f : Fr u u') : SvV lo m lc W v u' := by
  obtain ⟨tb, wb, rb, e, s, h1, h2, h3⟩ := h
  have := f.size
  exact ⟨tb, wb, rb, e, s.fr f, ⟨h1.1, by omega⟩, ⟨h2.1, by omega⟩, ⟨h3.1, by omega⟩⟩
theorem into_short' (gb off n c : Nat) (lo : Option Addr) (m lc : Nat) (es : List Ev) (lk : List Bool) (W : World) (hn : es.length = n) (hnc : n ≤ c) (h : ReadsE W (some ⟨gb, off, none⟩) es) (hs : Shapes W) (hm : lk.length = m) (hL : ReadsG layBo W lo lk) (hm2 : m ≤ 16777216)
    (j : Nat) (hj : j < (lpL es).length) (v : Value) (u : World) (fu : Fr W u) (hv : SvV lo m lc W v u) :
    Calls Tryz.prog 131 #[.slice (some ⟨gb, off, none⟩) n c, .int .i64 (j : Int), .agg #[.int .u64 (wd (befN (eE es) j) 0), .int .u64 (wd (befN (eE es) j) 1), .int .u64 (wd (befN (eE es) j) 2), .int .u64 (wd (befN (eE es) j) 3), .int .u64 (wd (befN (eE es) j) 4)], v] u fun x w' => ∃ y, x = .returned y ∧ OwnG layPr w' W.heap.size y (pairsJ es lk true j) ∧ Fr W w' := by
  have h300 := lpL_300 es
  have hle : (lpL es).length ≤ es.length := by unfold lpL; rw [List.length_take]; omega
  have hlen := h.len
  obtain ⟨tb, wb, rb, rfl, S8, b1, b2, b3⟩ := hv
  have hSS : ∀ b, SvS true wb rb b → W.heap.size ≤ b := fun b q => by rcases q.2 with e | e <;> omega
  have hX := fun u' (f : FrS (SvS true wb rb) u u') => fr_behind fu f hSS
  refine (into_short true rfl tb wb rb lo m lc gb off n c j es lk u hn hnc (by omega) (by omega) (by omega) (fun u' f => h.fr (hX u' f)) (fun u' f => hs.fr (hX u' f)) (fun _ u' f => hL.fr (hX u' f)) hm hm2 (fun _ => S8) (fun _ => ⟨b1.2, b2.2, b3.2⟩) (fun i hi _ => leg_gor (by omega)) (fun B g cap ps u hu => rev_any B g cap ps u hu)).mono ?_
  rintro x w' ⟨y, rfl, o, f, -⟩
  exact ⟨y, rfl, o.lower fu.size, fr_behind fu f hSS⟩

set_option maxHeartbeats 1000000 in
theorem shortIn1_any (lb : Nat) (lo : Option Addr) (m lc : Nat) (W u : World) (hb : u.cell? ⟨lb, 0, none⟩ = some (.slice lo m lc)) (fu : Fr W u) :
    Calls Tryz.prog 76 #[.pointer (some ⟨lb, 0, none⟩)] u fun x w' => ∃ v, x = .returned v ∧ SvV lo m lc W v w' ∧ Fr u w' := by
  have cS := shortSieve_any lo m lc u
  have hz := fu.size
  go_enter Tryz.func76, Tryz.ntmps76
  go_wp2_with fail
  refine cS.mono ?_
  rintro x u1 ⟨tb, wb, rb, rfl, S8, a1, a2, a3, a4, a5, a6, f1⟩
  go_wp2_with fail
  go_ret
  exact ⟨_, rfl, ⟨tb, wb, rb, rfl, S8, ⟨by omega, a2⟩, ⟨by omega, a4⟩, ⟨by omega, a6⟩⟩, f1⟩

set_option maxHeartbeats 1000000 in
theorem implShort_any (gb off n c : Nat) (lo : Option Addr) (m lc : Nat) (es : List Ev) (lk : List Bool) (w : World) (hn : es.length = n) (hnc : n ≤ c) (h : ReadsE w (some ⟨gb, off, none⟩) es) (hs : Shapes w) (hab : gb < w.heap.size) (hm : lk.length = m) (hL : ReadsG layBo w lo lk) (hm2 : m ≤ 16777216) :
    Calls Tryz.prog 23 #[.slice (some ⟨gb, off, none⟩) n c, .slice lo m lc] w fun x w' => ∃ v, x = .returned v ∧ OwnG layPr w' w.heap.size v (pairsL (lpL es) lk true (lpL es).length) ∧ Fr w w' := by
  rw [pairsL_lp (Nat.le_refl _)]
  have f0 := Fr.alloc w (.cells #[.slice lo m lc] 44)
  have k0 := heap_alloc_new w (.cells #[.slice lo m lc] 44)
  have hz0 : w.heap.size ≤ (w.alloc (.cells #[.slice lo m lc] 44)).heap.size := f0.size
  have cP := pairsIn_short gb off n c (lpL es).length es lk w.heap.size (w.alloc (.cells #[.slice lo m lc] 44)) (SvV lo m lc) (fun _ _ _ _ q f => q.fr f) (ranks_cR gb off n c es _ hn (h.fr f0) (hs.fr f0) (by omega)) (lpL_300 es)
    (fun W u fW fu => shortIn1_any w.heap.size lo m lc W u ((fW.trans fu).cell (by rw [cell_of_row _ _ _ _ _ _ k0]; rfl)) fu)
    (fun j hj W v u fW fu hv => into_short' gb off n c lo m lc es lk W hn hnc (h.fr (f0.trans fW)) (hs.fr (f0.trans fW)) hm (hL.fr (f0.trans fW)) hm2 j hj v u fu hv)
  obtain ⟨N, hN⟩ : ∃ N, N = (lpL es).length := ⟨_, rfl⟩
  obtain ⟨ps, hps⟩ : ∃ ps, ps = pairsL es lk true (lpL es).length := ⟨_, rfl⟩
  rw [← hps] at cP ⊢
  clear hps k0
  have hmf : ∀ (fn : Fn) (first cap : Array Value) (w : World), (Instr.makeFunc fn first cap).run Tryz.prog w = .ok (.func fn first cap) w := fun _ _ _ _ => rfl
  go_enter Tryz.func23, Tryz.ntmps23
  go_wp2_with fail
  refine cP.mono ?_
  rintro x u1 ⟨v, rfl, o1, f1⟩
  go_wp2_with fail
  go_ret
  exact ⟨v, rfl, o1.lower hz0, f0.trans f1⟩
end Go.Proofs.YtcofhmikdkkigaaGreatDoor
