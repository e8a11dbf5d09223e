/-
  Pack BG: ScOrdI, ScScene, ScScene2, ScMarkS.
-/
import Derived.Test.YtcofhmikdkkigaaGreatDoorPfBE
import Derived.Test.YtcofhmikdkkigaaGreatDoorPfAZ
import Derived.Test.YtcofhmikdkkigaaGreatDoorPfAU
import Derived.Test.YtcofhmikdkkigaaGreatDoorPfBF
import Derived.Deep.RegionHeld3
import Derived.Test.YtcofhmikdkkigaaGreatDoorPfAJ
namespace Go.Proofs.YtcofhmikdkkigaaGreatDoor
open Go.RowKit

set_option maxRecDepth 20000 in
set_option maxHeartbeats 2000000 in
theorem ordI_any (mb n : Nat) (f : Int → Option Value) (xs : List Int) (w : World) (M : MapF w mb n f) (hr : xs.Pairwise (· < ·)) (hk : ∀ o, o ∈ xs ↔ (f o).isSome = true) (hv : ∀ j (hj : j < xs.length), f xs[j] = some (valI xs[j])) (hi : ∀ o ∈ xs, I64 o) (hn : n ≤ 4000000) (hl : xs.length ≤ 1048576) :
    Calls Tryz.prog 106 #[.map (some mb)] w fun e w' => ∃ v, e = .returned v ∧ OwnS w' w.heap.size v xs ∧ Fr w w' := by
  have fE := Fr.alloc w (.cells #[] 2)
  have cK := keysI_any mb (w.alloc (.cells #[] 2))
  have cS := sortedI_any mb n f xs (w.alloc (.cells #[] 2)) (M.fr fE) hr hk hi hn
  have hL : ∀ j (hj : j < xs.length) u, Fr w u → (Instr.lookup 138 (.map (some mb)) (.int .i64 xs[j]) false).run Tryz.prog u = .ok (.int .i64 xs[j]) u := fun j hj u fu => by
    rw [(M.fr fu).look Tryz.underlying138 (zeroI u) (hi _ (List.getElem_mem hj)), hv j hj]
    rfl
  simp only [World.size_alloc] at cS
  have HO : Hid (OwnS (w.alloc (.cells #[] 2)) w.heap.size (.slice (some ⟨w.heap.size, 0, none⟩) 0 0) []) := own_empty w _ (Nat.le_refl _)
  clear M hr hk hv
  go_enter Tryz.func106, Tryz.ntmps106
  go_wp2_with fail
  refine cK.mono ?_
  rintro e w1 ⟨rfl, rfl⟩
  clear cK
  go_wp2_with fail
  refine cS.mono ?_
  rintro e w2 ⟨ao, cap, rfl, R, hab, f2⟩
  clear cS
  have F2 := fE.trans f2
  have HO : Hid (OwnS w2 w.heap.size (.slice (some ⟨w.heap.size, 0, none⟩) 0 0) []) := HO.out.fr f2
  clear fE f2
  go_wp2_with fail
  go_loopw [3, 11] (fun u i wr => ∃ k : Nat, k ≤ xs.length ∧ i = .int .i64 k ∧ OwnS wr w.heap.size u (xs.take k) ∧ Fr w wr ∧ Reads wr ao xs ∧ Hid ((∀ j, u.ownBlock = some j → blk ao ≠ some j) ∧ w2.heap.size ≤ wr.heap.size)) (fun _ i _ => xs.length - (intOf i).toNat)
  case atStart => exact ⟨0, Nat.zero_le _, rfl, HO.out, F2, R, ⟨fun j hj q => by have := (hab j q).1; simp only [Value.ownBlock, Option.some.injEq] at hj; omega, Nat.le_refl _⟩⟩
  case round =>
    clear HO
    obtain ⟨k, hk, rfl, ho, hf, R, HU⟩ := hrel
    have hs := hf.size
    by_cases hlt : k < xs.length
    · have Rk := R
      obtain ⟨b, off, rfl, hc⟩ := Rk.at_ k hlt
      have hck := hc k hlt
      rw [getD_at hlt] at hck
      clear hc Rk
      have hI := hi _ (List.getElem_mem hlt)
      have hLk := hL k hlt wr hf
      have HS : Hid (xs.take (k + 1) = xs.take k ++ [xs[k]]) := List.take_succ_eq_append_getElem hlt
      have hln : (xs.take k).length ≤ k := by simp; omega
      obtain ⟨z, hz⟩ : ∃ z, z = xs[k] := ⟨_, rfl⟩
      rw [← hz] at hck hLk HS hI
      clear hz
      have HA := Fr.alloc wr (.cells #[.int .i64 z] 2)
      have HR : Hid (∀ w4, (wr.alloc (.cells #[.int .i64 z] 2)).grownBy w4 u3.ownBlock → Fr w w4 ∧ Reads w4 (some ⟨b, off, none⟩) xs ∧ w2.heap.size ≤ w4.heap.size) := fun w4 g => ⟨(hf.trans HA).then g ho.blk, (R.fr HA).keep g (.inr (fun q => by
        cases hq : u3.ownBlock with
        | none => rw [hq] at q; simp [blk] at q
        | some j => rw [hq] at q; exact HU.out.1 j hq q)), by have := g.size; have := HA.size; have := HU.out.2; omega⟩
      have hw2 := HU.out.2
      have hb2 := hab b rfl
      have HU := HU.out.1
      clear HA R
      have HU : Hid (∀ j, u3.ownBlock = some j → blk (some (⟨b, off, none⟩ : Addr)) ≠ some j) := HU
      have hm := reads_one wr z hI
      go_wp2_with (at_builtin; refine appI2 _ rfl _ _ rfl w.heap.size _ _ [z] rfl (ho.fr (Fr.alloc _ _)) _ _ _ rfl rfl (by simp) hm (by simp; omega) (by simp; omega) ?_; intro v4 w4 hv4 hg4 hat4)
      obtain ⟨r1, r2, r3⟩ := HR.out w4 hg4
      go_roundw
      case rel =>
        refine ⟨k + 1, by omega, by go_num, by rw [HS.out]; exact hv4, r1, r2, ⟨fun j hj => ?_, r3⟩⟩
        rcases hat4 with q | q
        · rw [q] at hj; exact HU.out j hj
        · rw [q] at hj
          simp only [Option.some.injEq, World.size_alloc] at hj
          simp only [blk, Option.map_some, ne_eq, Option.some.injEq]
          omega
      case measure => simp [intOf]; omega
    · have e : xs.take k = xs := List.take_of_length_le (by omega)
      rw [e] at ho
      have HOX : Hid (OwnS wr w.heap.size u3 xs) := ho
      clear e ho
      go_wp2_with fail
      go_ret
      exact ⟨_, rfl, HOX.out, hf⟩
end Go.Proofs.YtcofhmikdkkigaaGreatDoor
namespace Go.Proofs.YtcofhmikdkkigaaGreatDoor
open Go.RowKit

theorem find_of_mem {α : Type} (key : α → Int) : ∀ (xs : List α), (xs.map key).Pairwise (· < ·) → ∀ x ∈ xs, xs.find? (fun y => key y == key x) = some x
  | [], _, x, hx => by simp at hx
  | y :: ys, h, x, hx => by
    rw [List.map_cons, List.pairwise_cons] at h
    rcases List.mem_cons.1 hx with rfl | hx
    · rw [List.find?_cons]; simp
    · have h1 := h.1 _ (List.mem_map_of_mem hx)
      rw [List.find?_cons, show (key y == key x) = false by simp; omega]
      exact find_of_mem key ys h.2 x hx
theorem mem_find {α : Type} (key : α → Int) (o : Int) (xs : List α) : o ∈ xs.map key ↔ (xs.find? (fun y => key y == o)).isSome = true := by
  rw [List.find?_isSome, List.mem_map]
  constructor
  · rintro ⟨x, hx, rfl⟩; exact ⟨x, hx, by simp⟩
  · rintro ⟨x, hx, e⟩; exact ⟨x, hx, by simpa using e⟩
theorem lvs_of {B : Nat → Prop} {w : World} {fl : Int → Option Value} : ∀ (ls : List Lk), (∀ l ∈ ls, ∃ lv, fl l.o = some (valL lv) ∧ LkR B w lv l) → ∃ lvs, LksR B w lvs ls ∧ ∀ lv ∈ lvs, fl lv.o = some (valL lv)
  | [], _ => ⟨[], LksR.nil _ _, by simp⟩
  | l :: ls, h => by
    obtain ⟨lv, h1, h2⟩ := h l (List.mem_cons_self ..)
    obtain ⟨lvs, h3, h4⟩ := lvs_of ls fun x hx => h x (List.mem_cons_of_mem _ hx)
    refine ⟨lv :: lvs, ⟨by simp [h3.len], fun j q1 q2 => ?_⟩, fun x hx => ?_⟩
    · cases j with
      | zero => exact h2
      | succ j => exact h3.at_ j (by simpa using q1) (by simpa using q2)
    · rcases List.mem_cons.1 hx with rfl | hx
      · rw [h2.o]; exact h1
      · exact h4 x hx
theorem BoardW.lks {lo : Nat × Nat} {w : World} {b b1 b2 b3 b4 n : Nat} {m : Scn} (h : BoardW lo w b b1 b2 b3 b4 n m) (hm : scB m = true) : ∃ fl lvs, MapF w b1 n fl ∧ LksR (Off lo) w lvs m.ls ∧ (∀ j (hj : j < lvs.length), fl lvs[j].o = some (valL lvs[j])) ∧ (∀ o, o ∈ lvs.map Lv.o ↔ (fl o).isSome = true) := by
  obtain ⟨fl, M, hf⟩ := h.m1
  have hr := (sc_rise hm).1
  obtain ⟨lvs, h1, h2⟩ := lvs_of (B := Off lo) (w := w) (fl := fl) m.ls (fun l hl => by
    have h3 := find_of_mem Lk.o m.ls hr l hl
    rcases hf l.o with ⟨q, _⟩ | ⟨lk, lv, q1, q2, q3⟩
    · rw [q] at h3; cases h3
    · rw [q1] at h3; cases h3; exact ⟨lv, q2, q3⟩)
  refine ⟨fl, lvs, M, h1, fun j hj => h2 _ (List.getElem_mem hj), fun o => ?_⟩
  rw [lk_os _ _ h1, mem_find]
  rcases hf o with ⟨q, q2⟩ | ⟨lk, lv, q1, q2, q3⟩
  · rw [q, q2]; simp
  · rw [q1, q2]; simp

theorem reads_setR {w : World} {g k : Nat} {ys : List Lv} {ao : Option Addr} {rn rc : Nat} (h : ReadsG layL w (some ⟨g, 0, none⟩) ys) (hk : k < ys.length) :
    ReadsG layL (w.setCell ⟨g, k * 3 + 2, none⟩ (.slice ao rn rc)) (some ⟨g, 0, none⟩) (ys.set k { ys[k] with ro := ao, rn := rn, rc := rc }) := by
  refine ⟨by simpa using h.len, fun i hi => ⟨g, 0, rfl, fun j hj q hq => ?_⟩⟩
  obtain ⟨b, off, e, hc⟩ := h.at_ k hk
  simp only [Option.some.injEq, Addr.mk.injEq, and_true] at e
  obtain ⟨rfl, rfl⟩ := e
  have hj' : j < ys.length := by simpa using hj
  have hq' : q < 3 := hq
  have h0 := hc j hj' q hq
  have hsz : layL.sz = 3 := rfl
  by_cases hjk : j = k
  · subst hjk
    by_cases hq2 : q = 2
    · subst hq2
      have : (0 + j * layL.sz + 2) = j * 3 + 2 := by rw [hsz]; omega
      rw [this] at h0 ⊢
      rw [World.cell?_setCell_same' _ _ _ (by rw [h0]; rfl)]
      simp [layL]
    · have : (0 + j * layL.sz + q) ≠ j * 3 + 2 := by rw [hsz]; omega
      have hne : (⟨g, 0 + j * layL.sz + q, none⟩ : Addr) ≠ ⟨g, j * 3 + 2, none⟩ := fun e => this (by injection e)
      rw [World.cell?_setCell_other _ _ _ _ hne.symm, h0, List.getElem_set_self]
      have : q = 0 ∨ q = 1 := by omega
      rcases this with rfl | rfl <;> rfl
  · have : (0 + j * layL.sz + q) ≠ k * 3 + 2 := by rw [hsz]; omega
    have hne : (⟨g, 0 + j * layL.sz + q, none⟩ : Addr) ≠ ⟨g, k * 3 + 2, none⟩ := fun e => this (by injection e)
    rw [World.cell?_setCell_other _ _ _ _ hne.symm, h0, List.getElem_set_ne (fun e => hjk e.symm)]

structure LX (w wr : World) (g k : Nat) (lvs ys : List Lv) (ls : List Lk) : Prop where
  fr : Fr w wr
  ge : w.heap.size ≤ g
  row : ∃ cur, wr.heap[g]? = some (.cells cur 86 (0, 0))
  rd : ReadsG layL wr (some ⟨g, 0, none⟩) ys
  len : ys.length = ls.length
  new : ∀ j (h1 : j < ys.length) (h2 : j < ls.length), j < k → LkR (fun x => w.heap.size < x ∧ x < wr.heap.size ∧ x ≠ g) wr ys[j] ls[j]
  old : ∀ j (h1 : j < ys.length) (h2 : j < lvs.length), k ≤ j → ys[j] = lvs[j]
  ow : ∀ j (h1 : j < ys.length) (h2 : j < ls.length), j < k → ∃ gj, ys[j].ro = some ⟨gj, 0, none⟩ ∧ gj ≠ g ∧ gj < wr.heap.size ∧ OwnI wr w.heap.size (.slice (some ⟨gj, 0, none⟩) ys[j].rn ys[j].rc) ls[j].rd
  ap : ∀ i j (h1 : i < ys.length) (h2 : j < ys.length), i < k → j < k → i ≠ j → ys[i].ro ≠ ys[j].ro
theorem LX.glt {w wr : World} {g k : Nat} {lvs ys : List Lv} {ls : List Lk} (h : LX w wr g k lvs ys ls) : g < wr.heap.size := by
  obtain ⟨cur, hc⟩ := h.row
  exact (Array.getElem?_eq_some_iff.1 hc).1
theorem LX.grow {w wr w' : World} {g k : Nat} {lvs ys : List Lv} {ls : List Lk} (h : LX w wr g k lvs ys ls) (f : Fr wr w') : LX w w' g k lvs ys ls := by
  obtain ⟨cur, hc⟩ := h.row
  have hs := f.size
  exact ⟨h.fr.trans f, h.ge, ⟨cur, (f.block g h.glt (by simp)).trans hc⟩, h.rd.fr f, h.len, fun j h1 h2 hk => ((h.new j h1 h2 hk).fr f).mono (fun x q => ⟨q.1, by omega, q.2.2⟩), h.old, fun j h1 h2 hk => by
    obtain ⟨gj, a1, a2, a3, a4⟩ := h.ow j h1 h2 hk
    exact ⟨gj, a1, a2, by omega, a4.fr f⟩, h.ap⟩
theorem LX.put {w wr : World} {g k g2 c2 : Nat} {lvs ys : List Lv} {ls : List Lk} (h : LX w wr g k lvs ys ls) (hk : k < ys.length) (hk2 : k < ls.length) (hk3 : k < lvs.length) (hL : LkR (fun _ => True) wr lvs[k] ls[k]) (O : OwnI wr w.heap.size (.slice (some ⟨g2, 0, none⟩) ls[k].rd.length c2) ls[k].rd) (hfr : ∀ j (h1 : j < ys.length), j < k → ys[j].ro ≠ some ⟨g2, 0, none⟩) (hg2 : w.heap.size < g2 ∧ g2 < wr.heap.size ∧ g2 ≠ g) :
    LX w (wr.setCell ⟨g, k * 3 + 2, none⟩ (.slice (some ⟨g2, 0, none⟩) ls[k].rd.length c2)) g (k + 1) lvs (ys.set k { ys[k] with ro := some ⟨g2, 0, none⟩, rn := ls[k].rd.length, rc := c2 }) ls := by
  obtain ⟨cur, hc⟩ := h.row
  have ks := grown_set wr g (k * 3 + 2) (.slice (some ⟨g2, 0, none⟩) ls[k].rd.length c2)
  have hs := ks.size
  have he := h.old k hk (by omega) (Nat.le_refl _)
  have hg := h.ge
  refine ⟨h.fr.then ks (fun j hj => by simp only [Option.some.injEq] at hj; omega), hg, ⟨_, heap_setCell_same wr g (k * 3 + 2) _ _ _ hc⟩, reads_setR h.rd hk, by simpa using h.len, fun j h1 h2 hj => ?_, fun j h1 h2 hj => ?_, fun j h1 h2 hj => ?_, fun i j h1 h2 hi hj hij => ?_⟩
  · by_cases e : j = k
    · subst e
      rw [List.getElem_set_self]
      refine ⟨by simp only [he]; exact hL.o, by simp only [he]; exact hL.wr, rfl, O.reads.keep ks (.inr (by simp [blk]; omega)), fun b q => ?_, fun q => by simp at q, hL.sz, hL.io, hL.iw⟩
      simp only [blk, Option.map_some, Option.some.injEq] at q
      subst q
      exact ⟨hg2.1, by omega, hg2.2.2⟩
    · rw [List.getElem_set_ne (fun q => e q.symm)]
      exact ((h.new j (by simpa using h1) h2 (by omega)).keep ks (fun x hx => by cases hx; exact fun q => q.2.2 rfl)).mono (fun x q => ⟨q.1, by omega, q.2.2⟩)
  · rw [List.getElem_set_ne (by omega)]
    exact h.old j (by simpa using h1) h2 (by omega)
  · by_cases e : j = k
    · subst e
      rw [List.getElem_set_self]
      exact ⟨g2, rfl, hg2.2.2, by omega, O.keep ks (.inr (by simp [Value.ownBlock]; omega))⟩
    · rw [List.getElem_set_ne (fun q => e q.symm)]
      obtain ⟨gj, a1, a2, a3, a4⟩ := h.ow j (by simpa using h1) h2 (by omega)
      exact ⟨gj, a1, a2, by omega, a4.keep ks (.inr (by simp [Value.ownBlock]; omega))⟩
  · have h1' : i < ys.length := by simpa using h1
    have h2' : j < ys.length := by simpa using h2
    by_cases e1 : i = k
    · subst e1
      rw [List.getElem_set_self, List.getElem_set_ne (fun q => hij q)]
      exact fun q => hfr j h2' (by omega) q.symm
    · by_cases e2 : j = k
      · subst e2
        rw [List.getElem_set_self, List.getElem_set_ne (fun q => e1 q.symm)]
        exact hfr i h1' (by omega)
      · rw [List.getElem_set_ne (fun q => e1 q.symm), List.getElem_set_ne (fun q => e2 q.symm)]
        exact h.ap i j h1' h2' (by omega) (by omega) hij
end Go.Proofs.YtcofhmikdkkigaaGreatDoor
namespace Go.Proofs.YtcofhmikdkkigaaGreatDoor
open Go.RowKit

theorem own_row {w : World} {base g n c sz : Nat} {T : TypeId} {xs : List Value} (h : w.ownsRow base T sz (.slice (some ⟨g, 0, none⟩) n c) n xs) : RowAt w g T := by
  rcases h.2 with ⟨e, _⟩ | ⟨g', cap', cur, e, -, hc, -⟩
  · cases e
  · cases e; exact ⟨cur, hc⟩
theorem RowAt.keep {w w' : World} {g : Nat} {T : TypeId} {row : Option Nat} (h : RowAt w g T) (k : w.grownBy w' row) (hne : some g ≠ row) : RowAt w' g T := by
  obtain ⟨cur, hc⟩ := h
  exact ⟨cur, (k.block g (Array.getElem?_eq_some_iff.1 hc).1 hne).trans hc⟩
structure ScO (base : Nat) (w : World) (s : Sv) (m : Scn) (gl gc gn go : Nat) (lvs : List Lv) : Prop where
  e1 : s.lo = some ⟨gl, 0, none⟩
  e2 : s.co = some ⟨gc, 0, none⟩
  e3 : s.no = some ⟨gn, 0, none⟩
  e4 : s.oo = some ⟨go, 0, none⟩
  ll : s.ll = lvs.length
  rl : ReadsG layL w (some ⟨gl, 0, none⟩) lvs
  ol : LO w gl base lvs
  tl : totL lvs ≤ 1000
  rc : RowAt w gc 89
  rn : RowAt w gn 92
  oo : OwnI w base (.slice (some ⟨go, 0, none⟩) s.ol s.oc) m.os
  ne : gc ≠ gn ∧ gc ≠ go ∧ gn ≠ go
  ap : ∀ x, BlkL gl lvs x → x ≠ gc ∧ x ≠ gn ∧ x ≠ go
  lo : ∀ x, BlkL gl lvs x ∨ x = gc ∨ x = gn ∨ x = go → base ≤ x ∧ x < w.heap.size
theorem LO.keep {w w' : World} {g base : Nat} {lvs : List Lv} {row : Option Nat} (h : LO w g base lvs) (k : w.grownBy w' row) (hr : ∀ x, row = some x → ¬ BlkL g lvs x) : LO w' g base lvs := by
  refine ⟨h.row.keep k (fun e => hr g e.symm (.inl rfl)), fun j hj => ?_, h.ap⟩
  obtain ⟨gj, a1, a2, xs, a3, a4⟩ := h.own j hj
  refine ⟨gj, a1, a2, xs, a3, a4.keep k (.inr ?_)⟩
  simp only [Value.ownBlock]
  exact fun e => hr gj e.symm (.inr ⟨j, hj, a1⟩)
theorem ScO.fr {base : Nat} {w w' : World} {s : Sv} {m : Scn} {gl gc gn go : Nat} {lvs : List Lv} (h : ScO base w s m gl gc gn go lvs) (k : Fr w w') : ScO base w' s m gl gc gn go lvs :=
  { h with rl := h.rl.fr k, ol := h.ol.keep k (by simp), rc := h.rc.keep k (by simp), rn := h.rn.keep k (by simp), oo := h.oo.fr k, lo := fun x hx => ⟨(h.lo x hx).1, Nat.lt_of_lt_of_le (h.lo x hx).2 k.size⟩ }
theorem ScO.keep {base : Nat} {w w' : World} {s : Sv} {m : Scn} {gl gc gn go : Nat} {lvs : List Lv} {row : Nat} (h : ScO base w s m gl gc gn go lvs) (k : w.grownBy w' (some row)) (hr : row < base ∨ w.heap.size ≤ row) : ScO base w' s m gl gc gn go lvs := by
  have hx : ∀ x, BlkL gl lvs x ∨ x = gc ∨ x = gn ∨ x = go → row ≠ x := fun x q e => by
    have := h.lo x q
    omega
  have n1 := hx gl (.inl (.inl rfl))
  have n2 := hx gc (.inr (.inl rfl))
  have n3 := hx gn (.inr (.inr (.inl rfl)))
  have n4 := hx go (.inr (.inr (.inr rfl)))
  exact { h with rl := h.rl.keep k (.inr (by simpa [blk] using fun e => n1 e.symm)), ol := h.ol.keep k (fun x e q => by cases e; exact hx _ (.inl q) rfl), rc := h.rc.keep k (by simpa using fun e => n2 e.symm), rn := h.rn.keep k (by simpa using fun e => n3 e.symm), oo := h.oo.keep k (.inr (by simpa [Value.ownBlock] using fun e => n4 e.symm)), lo := fun x hx => ⟨(h.lo x hx).1, Nat.lt_of_lt_of_le (h.lo x hx).2 k.size⟩ }
theorem ScO.lower {base base' : Nat} {w : World} {s : Sv} {m : Scn} {gl gc gn go : Nat} {lvs : List Lv} (h : ScO base w s m gl gc gn go lvs) (hb : base' ≤ base) : ScO base' w s m gl gc gn go lvs :=
  { h with ol := ⟨h.ol.row, fun j hj => by
      obtain ⟨gj, a1, a2, xs, a3, a4⟩ := h.ol.own j hj
      exact ⟨gj, a1, a2, xs, a3, a4.lower hb⟩, h.ol.ap⟩, oo := h.oo.lower hb, lo := fun x hx => ⟨Nat.le_trans hb (h.lo x hx).1, (h.lo x hx).2⟩ }
theorem totL_le : ∀ (xs : List Lv), (∀ x ∈ xs, x.rn ≤ 16) → totL xs ≤ 18 * xs.length
  | [], _ => by simp [totL]
  | x :: xs, h => by
    have h1 := h x (List.mem_cons_self ..)
    have h2 := totL_le xs (fun y hy => h y (List.mem_cons_of_mem _ hy))
    simp only [totL, List.length_cons]
    omega

set_option maxRecDepth 20000 in
set_option maxHeartbeats 4000000 in
theorem scene_any {lo : Nat × Nat} {b b1 b2 b3 b4 n : Nat} {m : Scn} (w : World) (h : BoardW lo w b b1 b2 b3 b4 n m) (hm : scB m = true) (hn : n ≤ 4000000) :
    Calls Tryz.prog 53 #[.pointer (some ⟨b, 0, none⟩)] w fun e w' => ∃ s : Sv, e = .returned (.agg #[.int .i64 s.g, .slice s.lo s.ll s.lc, .slice s.co s.cl s.cc, .slice s.no s.nl s.nc, .slice s.oo s.ol s.oc]) ∧ ScR (fun x => w.heap.size ≤ x ∧ x < w'.heap.size) w' s m ∧ Fr w w' ∧ ∃ gl gc gn go ys, ScO w.heap.size w' s m gl gc gn go ys := by
  obtain ⟨fl, lvs, M1, hLk, hv1, hk1⟩ := h.lks hm
  obtain ⟨r1, r2, r3, r4⟩ := sc_rise hm
  have HSC := (scB_iff m).1 hm
  have f0 := Fr.alloc w (.cells #[.int .i64 0, .slice none 0 0, .slice none 0 0, .slice none 0 0, .slice none 0 0] 29)
  have k0 := ScK.new w ⟨0, none, 0, 0, none, 0, 0, none, 0, 0, none, 0, 0⟩
  simp only at k0
  have hlen : ∀ (xs : List Int), xs.Pairwise (· < ·) → (∀ x ∈ xs, 0 ≤ x ∧ x ≤ 15) → xs.length ≤ 16 := fun xs q1 q2 => by
    have := rise_len xs 0 15 q1 q2 (by omega)
    omega
  have o1 : ∀ x ∈ m.ls.map Lk.o, 0 ≤ x ∧ x ≤ 15 := fun x hx => by
    obtain ⟨l, hl, rfl⟩ := List.mem_map.1 hx
    exact ((lkB_iff _ _).1 (HSC.2.1.1 l hl)).2.1
  have o2 : ∀ x ∈ m.cs.map Ch.o, 0 ≤ x ∧ x ≤ 15 := fun x hx => by
    obtain ⟨l, hl, rfl⟩ := List.mem_map.1 hx
    exact (chB_in (HSC.2.2.1.1 l hl)).1
  have o3 : ∀ x ∈ m.gs.map Ct.o, 0 ≤ x ∧ x ≤ 15 := fun x hx => by
    obtain ⟨l, hl, rfl⟩ := List.mem_map.1 hx
    exact (ctB_in (HSC.2.2.2.1.1 l hl)).1
  have o4 := HSC.2.2.2.2.1
  have n1 : lvs.length ≤ 16 := by have := hlen _ r1 o1; rw [hLk.len]; simpa using this
  have n2 : m.cs.length ≤ 16 := by simpa using hlen _ r2 o2
  have n3 : m.gs.length ≤ 16 := by simpa using hlen _ r3 o3
  have n4 : m.os.length ≤ 16 := hlen _ r4 o4
  have cL := fun u (f : Fr w u) => ordL_any b1 n fl lvs u (M1.fr f) (by rw [lk_os _ _ hLk]; exact r1) hk1 hv1 (fun o ho => by rw [lk_os _ _ hLk] at ho; exact i64_small (by have := o1 o ho; omega)) hn (by omega)
  have cC := fun u (f : Fr w u) => ordC_any b2 n _ m.cs u (h.m2.fr f) r2 (fun o => by rw [mem_find]; simp) (fun j hj => by rw [find_of_mem Ch.o m.cs r2 _ (List.getElem_mem hj)]; rfl) (fun o ho => i64_small (by have := o2 o ho; omega)) hn (by omega)
  have cN := fun u (f : Fr w u) => ordN_any b3 n _ m.gs u (h.m3.fr f) r3 (fun o => by rw [mem_find]; simp) (fun j hj => by rw [find_of_mem Ct.o m.gs r3 _ (List.getElem_mem hj)]; rfl) (fun o ho => i64_small (by have := o3 o ho; omega)) hn (by omega)
  have cI := fun u (f : Fr w u) => ordI_any b4 n _ m.os u (h.m4.fr f) r4 (fun o => by simp only [find_self]; by_cases q : o ∈ m.os <;> simp [q]) (fun j hj => by simp only [find_self]; rw [if_pos (List.getElem_mem hj)]; rfl) (fun o ho => i64_small (by have := o4 o ho; omega)) hn (by omega)
  have HC : Hid (∀ u, Fr w u → u.cell? ⟨b, 0, none⟩ = some (.int .i64 m.g) ∧ u.cell? ⟨b, 1, none⟩ = some (.map (some b1)) ∧ u.cell? ⟨b, 2, none⟩ = some (.map (some b2)) ∧ u.cell? ⟨b, 3, none⟩ = some (.map (some b3)) ∧ u.cell? ⟨b, 4, none⟩ = some (.map (some b4))) := fun u f => ⟨f.cell h.toM.c0, f.cell h.toM.c1, f.cell h.toM.c2, f.cell h.toM.c3, f.cell h.toM.c4⟩
  have HG : Hid (I64 m.g) := i64_small (by have := HSC.1; omega)
  have HIC : Hid (∀ c ∈ m.cs, I64 c.o ∧ I64 c.cap ∧ I64 c.sent ∧ I64 c.got) := fun c hc => by
    have := chB_in (HSC.2.2.1.1 c hc)
    exact ⟨i64_small (by omega), i64_small (by omega), i64_small (by omega), i64_small (by omega)⟩
  have HIN : Hid (∀ c ∈ m.gs, I64 c.o ∧ I64 c.n) := fun c hc => by
    have := ctB_in (HSC.2.2.2.1.1 c hc)
    exact ⟨i64_small (by omega), i64_small (by omega)⟩
  have HRD : Hid (∀ l ∈ m.ls, l.rd.length ≤ 16) := fun l hl => by
    obtain ⟨⟨q1, q2⟩, -⟩ := (lkB_iff _ _).1 (HSC.2.1.1 l hl)
    have := rise_len l.rd 0 15 q2 (fun x hx => by have := q1 x hx; have := HSC.1; omega) (by omega)
    omega
  have hblt := h.blt
  clear h hm M1 hv1 hk1 HSC o1 o2 o3 o4 r1 r2 r3 r4 hlen
  obtain ⟨c0, c1, c2, c3, c4⟩ := HC.out _ f0
  go_enter Tryz.func53, Tryz.ntmps53
  go_wp2_with fail
  obtain ⟨W, hW⟩ : ∃ W, W = w.alloc (.cells #[.int .i64 0, .slice none 0 0, .slice none 0 0, .slice none 0 0, .slice none 0 0] 29) := ⟨_, rfl⟩
  rw [← hW] at f0 k0 c0 c1 c2 c3 c4 ⊢
  obtain ⟨rb, hrb⟩ : ∃ rb, rb = w.heap.size := ⟨_, rfl⟩
  rw [← hrb] at k0 ⊢
  have HRB : Hid (rb = w.heap.size) := hrb
  have hrbb : rb ≠ b := by omega
  clear hW hrb
  refine (cL W f0).mono ?_
  rintro x w1 ⟨v1, rfl, O1, f1⟩
  obtain ⟨g1, cap1, rfl, O1, hl1⟩ := O1
  clear c0 c1 c2 c3 c4 cL
  have F1 := f0.trans f1
  have k1 := k0.fr f1
  have hX : LX w w1 g1 0 lvs lvs m.ls := by
    have hb := O1.lt g1 rfl
    rcases O1.2 with ⟨e, _⟩ | ⟨g', cap', cur, e, -, hc, -⟩
    · cases e
    · cases e
      refine ⟨F1, by have := f0.size; omega, ⟨cur, hc⟩, own_readsG O1 (by omega), hLk.len, fun j _ _ q => by omega, fun j _ _ _ => rfl, fun j _ _ q => by omega, fun i j _ _ q => by omega⟩
  have hgr : g1 ≠ rb := by
    have := O1.lt g1 rfl
    have := k0.lt
    omega
  clear f0 k0 f1 O1
  go_wp2_with fail
  go_loopw [13] (fun i wr => ∃ (k : Nat) (ys : List Lv), k ≤ lvs.length ∧ i = .int .i64 k ∧ LX w wr g1 k lvs ys m.ls ∧ ScK wr rb ⟨0, none, 0, 0, none, 0, 0, none, 0, 0, none, 0, 0⟩) (fun i _ => lvs.length - (intOf i).toNat)
  case atStart => exact ⟨0, lvs, Nat.zero_le _, rfl, hX, k1⟩
  case round =>
    clear hX k1
    obtain ⟨k, ys, hk, rfl, hX, k1⟩ := hrel
    by_cases hlt : k < lvs.length
    · have hy : k < ys.length := by rw [hX.len, ← hLk.len]; exact hlt
      have hls : k < m.ls.length := by rw [← hLk.len]; exact hlt
      have he := hX.old k hy hlt (Nat.le_refl _)
      obtain ⟨bq, off, e0, d0, d1, d2⟩ := lv_at hX.rd k hy
      simp only [Option.some.injEq, Addr.mk.injEq, and_true] at e0
      obtain ⟨rfl, rfl⟩ := e0
      rw [he] at d0 d1 d2
      simp only [Nat.zero_add] at d0 d1 d2
      have hLR := (hLk.at_ k hlt hls).fr hX.fr
      have HPUT : Hid (∀ u g2 c2, Fr wr u → OwnI u w.heap.size (.slice (some ⟨g2, 0, none⟩) m.ls[k].rd.length c2) m.ls[k].rd → (wr.heap.size ≤ g2 ∧ g2 < u.heap.size) → LX w (u.setCell ⟨g1, k * 3 + 2, none⟩ (.slice (some ⟨g2, 0, none⟩) m.ls[k].rd.length c2)) g1 (k + 1) lvs (ys.set k { ys[k] with ro := some ⟨g2, 0, none⟩, rn := m.ls[k].rd.length, rc := c2 }) m.ls) := fun u g2 c2 fu R q => by
        have hg := hX.glt
        have hs := hX.ge
        exact (hX.grow fu).put hy hls hlt (((hLk.at_ k hlt hls).fr (hX.fr.trans fu)).mono (fun _ _ => trivial)) R (fun j h1 hj => by
          obtain ⟨gj, a1, a2, a3, a4⟩ := hX.ow j h1 (by rw [← hX.len]; exact h1) hj
          rw [a1]
          intro e
          simp only [Option.some.injEq, Addr.mk.injEq, and_true] at e
          omega) ⟨by omega, by omega, by omega⟩
      have HFZ : Hid (∀ u, Fr wr u → u.frozen? ⟨g1, k * 3 + 2, none⟩ = false ∧ ∃ x, u.cell? ⟨g1, k * 3 + 2, none⟩ = some x) := fun u fu => by
        obtain ⟨cur, hc⟩ := (hX.grow fu).row
        exact ⟨frozen_of_row u g1 _ _ _ hc, _, fu.cell d2⟩
      have HSZ : Hid (w.heap.size ≤ wr.heap.size) := hX.fr.size
      have hrn := hLR.rn
      have hrd := hLR.rd
      have hrc := hLR.rc
      have hrs := hLR.sz
      obtain ⟨rd, hrdd⟩ : ∃ rd, rd = m.ls[k].rd := ⟨_, rfl⟩
      rw [← hrdd] at hrn hrd hrs HPUT
      clear hrdd hLR he
      obtain ⟨e, hee⟩ : ∃ e, e = lvs[k] := ⟨_, rfl⟩
      rw [← hee] at d0 d1 d2 hrn hrd hrc
      clear hee
      obtain ⟨zo, zw, zr, zn, zk⟩ := e
      simp only at d0 d1 d2 hrn hrd hrc
      subst hrn
      have fA := Fr.alloc wr (.cells #[.int .i64 zo, .int .i64 zw, .slice zr rd.length zk] 86)
      have fB := Fr.alloc (wr.alloc (.cells #[.int .i64 zo, .int .i64 zw, .slice zr rd.length zk] 86)) (.cells #[] 2)
      have hO := own_empty (wr.alloc (.cells #[.int .i64 zo, .int .i64 zw, .slice zr rd.length zk] 86)) wr.heap.size (by simp)
      have hR := hrd.fr (fA.trans fB)
      have fAB := fA.trans fB
      simp only [World.size_alloc] at hO
      clear fA fB hrd
      go_wp2_with (at_builtin; refine appI _ rfl _ _ rfl wr.heap.size _ _ rd rfl hO zr rd.length zk rfl rfl hrc hR (by simp; omega) (by simp; omega) ?_; intro v4 w4 hv4 hg4; have fu : Fr wr w4 := fAB.then hg4 hO.blk; have hb4 := hv4.blk; obtain ⟨g2, c2, rfl, ho4⟩ := hv4; have hb4 := hb4 g2 rfl; obtain ⟨z1, z2, z3⟩ := HFZ.out w4 fu)
      go_roundw
      case rel => exact ⟨k + 1, _, by omega, by go_num, HPUT.out w4 g2 c2 fu (by simpa using ho4.lower (Nat.le_trans HSZ.out (Nat.le_refl _))) ⟨hb4, (ho4.1.lt g2 rfl).2⟩, (k1.fr fu).keep (grown_set _ _ _ _) (by simpa using fun q => hgr q)⟩
      case measure => simp [intOf]; omega
    · have hke : k = lvs.length := by omega
      have HLK : Hid (LksR (fun x => w.heap.size < x ∧ x < wr.heap.size ∧ x ≠ g1) wr ys m.ls ∧ ReadsG layL wr (some ⟨g1, 0, none⟩) ys ∧ lvs.length = ys.length) := ⟨⟨hX.len, fun j h1 h2 => hX.new j h1 h2 (by rw [hke, hLk.len]; exact h2)⟩, hX.rd, by rw [hX.len, hLk.len]⟩
      have HOW : Hid (∀ j (h1 : j < ys.length), ∃ gj, ys[j].ro = some ⟨gj, 0, none⟩ ∧ gj ≠ g1 ∧ gj < wr.heap.size ∧ ∃ h2 : j < m.ls.length, OwnI wr w.heap.size (.slice (some ⟨gj, 0, none⟩) ys[j].rn ys[j].rc) m.ls[j].rd) := fun j h1 => by
        have h2 : j < m.ls.length := by rw [← hX.len]; exact h1
        obtain ⟨gj, a1, a2, a3, a4⟩ := hX.ow j h1 h2 (by rw [hke, hLk.len]; exact h2)
        exact ⟨gj, a1, a2, a3, h2, a4⟩
      have HAP : Hid (∀ i j (h1 : i < ys.length) (h2 : j < ys.length), i ≠ j → ys[i].ro ≠ ys[j].ro) := fun i j h1 h2 hij => hX.ap i j h1 h2 (by rw [hke, hLk.len, ← hX.len]; exact h1) (by rw [hke, hLk.len, ← hX.len]; exact h2) hij
      have HRW : Hid (RowAt wr g1 86) := hX.row
      have hgl := hX.glt
      have hge := hX.ge
      have FW := hX.fr
      clear hX hLk
      subst hke
      have HK : Hid (∀ u, Fr wr u → ScK u rb ⟨0, none, 0, 0, none, 0, 0, none, 0, 0, none, 0, 0⟩) := fun u f => k1.fr f
      have hrl := k1.lt
      obtain ⟨mg, hmg⟩ : ∃ g, g = m.g := ⟨_, rfl⟩
      rw [← hmg] at HC
      have HMG : Hid (mg = m.g) := hmg
      clear hmg k1
      obtain ⟨c0, c1, c2, c3, c4⟩ := HC.out wr FW
      have fD := FW.trans (Fr.drew wr)
      go_wp2_with fail
      go_region_held3 (fun u => u.cell? ⟨b, 0, none⟩ = some (.int .i64 mg) ∧ u.cell? ⟨b, 1, none⟩ = some (.map (some b1)) ∧ u.cell? ⟨b, 2, none⟩ = some (.map (some b2)) ∧ u.cell? ⟨b, 3, none⟩ = some (.map (some b3)) ∧ u.cell? ⟨b, 4, none⟩ = some (.map (some b4))) (go_keep)
        (first | (go_at_call 104; refine (cC _ fD).mono ?_; rintro x u1 ⟨v1, rfl, O1, f1⟩; have q1 := (Fr.drew wr).trans f1; obtain ⟨p0, p1, p2, p3, p4⟩ := HC.out _ (FW.trans q1); obtain ⟨ga, ca, rfl, O1, hla⟩ := O1) | (go_at_call 105; refine (cN _ (FW.trans q1)).mono ?_; rintro x u2 ⟨v2, rfl, O2, f2⟩; have q2 := q1.trans f2; obtain ⟨s0, s1, s2, s3, s4⟩ := HC.out _ (FW.trans q2); obtain ⟨gb, cb, rfl, O2, hlb⟩ := O2) | (go_at_call 106; refine (cI _ (FW.trans q2)).mono ?_; rintro x u3 ⟨v3, rfl, O3, f3⟩; have q3 := q2.trans f3; obtain ⟨t0, t1, t2, t3, t4⟩ := HC.out _ (FW.trans q3); obtain ⟨gc, cc, rfl, O3⟩ := O3; obtain ⟨j0, j1, j2, j3, j4⟩ := (HK.out u3 q3).at; simp only at j0 j1 j2 j3 j4; have jf := fun i => (HK.out u3 q3).free i))
      clear c0 c1 c2 c3 c4 p0 p1 p2 p3 p4 s0 s1 s2 s3 s4 t0 t1 t2 t3 t4
      go_wp2_with fail
      have ta := O1.lt ga rfl
      have tb := O2.lt gb rfl
      have tc := O3.1.lt gc rfl
      have k5 := put5 u3 rb (.int .i64 mg) (.slice (some ⟨g1, 0, none⟩) lvs.length cap1) (.slice (some ⟨ga, 0, none⟩) m.cs.length ca) (.slice (some ⟨gb, 0, none⟩) m.gs.length cb) (.slice (some ⟨gc, 0, none⟩) m.os.length cc)
      have z1 := f1.size
      have z2 := f2.size
      have z3 := f3.size
      have z5 := k5.size
      have z6 := FW.size
      have zd : wr.drew.heap.size = wr.heap.size := rfl
      have FK : Fr w u3 := FW.trans q3
      have HRB := HRB.out
      obtain ⟨l1, l2, l3⟩ := HLK.out
      have R1 := own_readsG O1 hla
      have R2 := own_readsG O2 hlb
      have R3 := O3.reads
      refine bodyPost_ret (v := .agg #[.int .i64 mg, .slice (some ⟨g1, 0, none⟩) lvs.length cap1, .slice (some ⟨ga, 0, none⟩) m.cs.length ca, .slice (some ⟨gb, 0, none⟩) m.gs.length cb, .slice (some ⟨gc, 0, none⟩) m.os.length cc]) (by simp [results, Tryz.results53, go_sem, j0, j1, j2, j3, j4]) rfl ⟨⟨mg, some ⟨g1, 0, none⟩, lvs.length, cap1, some ⟨ga, 0, none⟩, m.cs.length, ca, some ⟨gb, 0, none⟩, m.gs.length, cb, some ⟨gc, 0, none⟩, m.os.length, cc⟩, rfl, ?_, FK.then k5 (fun j hj => by simp only [Option.some.injEq] at hj; omega), g1, ga, gb, gc, ys, ?_⟩
      have ll := l1.len
      rotate_left
      · have hbx : ∀ x, BlkL g1 ys x → x < wr.heap.size ∧ w.heap.size ≤ x ∧ x ≠ rb := by
          rintro x (rfl | ⟨j, hj, e⟩)
          · exact ⟨hgl, by omega, hgr⟩
          · obtain ⟨gj, a1, a2, a3, h2, a4⟩ := HOW.out j hj
            rw [a1] at e
            simp only [Option.some.injEq, Addr.mk.injEq, and_true] at e
            subst e
            have b1 := (l1.at_ j hj h2).bl gj (by rw [a1]; rfl)
            exact ⟨a3, by omega, by omega⟩
        refine { e1 := rfl, e2 := rfl, e3 := rfl, e4 := rfl, ll := l3, rl := (l2.fr q3).keep k5 (.inr (by simp [blk]; omega)), ol := ?_, tl := ?_, rc := ((own_row O1).keep (f2.trans f3) (by simp)).keep k5 (by simp; omega), rn := ((own_row O2).keep f3 (by simp)).keep k5 (by simp; omega), oo := (O3.lower (by omega)).keep k5 (.inr (by simp [Value.ownBlock]; omega)), ne := ⟨by omega, by omega, by omega⟩, ap := fun x hx => ?_, lo := fun x hx => ?_ }
        · exact LO.keep (LO.keep ⟨HRW.out, fun j hj => by
            obtain ⟨gj, a1, a2, a3, h2, a4⟩ := HOW.out j hj
            exact ⟨gj, a1, a2, m.ls[j].rd, ((l1.at_ j hj h2).rn).symm, a4⟩, HAP.out⟩ q3 (by simp)) k5 (fun x hx q => by
              simp only [Option.some.injEq] at hx
              exact (hbx x q).2.2 hx.symm)
        · have := totL_le ys (fun y hy => by
            obtain ⟨j, hj, rfl⟩ := List.mem_iff_getElem.1 hy
            have h2 : j < m.ls.length := l1.len ▸ hj
            rw [(l1.at_ j hj h2).rn]
            exact HRD.out _ (List.getElem_mem h2))
          omega
        · have := hbx x hx
          exact ⟨by omega, by omega, by omega⟩
        · rcases hx with hx | hx | hx | hx
          · have := hbx x hx
            exact ⟨by omega, by omega⟩
          · omega
          · omega
          · omega
      exact { g := HMG.out, ig := HG.out, lks := ⟨ys, (l2.fr q3).keep k5 (.inr (by simp [blk]; omega)), l3, ⟨ll, fun j h1 h2 => (((l1.at_ j h1 h2).fr q3).keep k5 (fun x hx => by cases hx; exact fun q => by omega)).mono (fun x q => ⟨by omega, by omega⟩)⟩⟩,
              chs := (R1.fr (f2.trans f3)).keep k5 (.inr (by simp [blk]; omega)), cl := rfl, cts := (R2.fr f3).keep k5 (.inr (by simp [blk]; omega)), nl := rfl, ons := R3.keep k5 (.inr (by simp [blk]; omega)), ol := rfl,
              bl := fun x hx => by simp only [blk, Option.map_some, Option.some.injEq] at hx; omega, bc := fun x hx => by simp only [blk, Option.map_some, Option.some.injEq] at hx; omega, bn := fun x hx => by simp only [blk, Option.map_some, Option.some.injEq] at hx; omega, bo := fun x hx => by simp only [blk, Option.map_some, Option.some.injEq] at hx; omega,
              zo := fun q => by simp at q, sl := by omega, sc := by omega, sn := by omega, so := by omega, ic := HIC.out, inn := HIN.out }
end Go.Proofs.YtcofhmikdkkigaaGreatDoor
namespace Go.Proofs.YtcofhmikdkkigaaGreatDoor
open Go.RowKit

theorem ReadsG.keepS {α : Type} {L : Lay α} {S : Nat → Prop} {w w' : World} {ao : Option Addr} {xs : List α} (h : ReadsG L w ao xs) (k : FrS S w w') (hs : ∀ b, blk ao = some b → ¬ S b) : ReadsG L w' ao xs := by
  refine ⟨h.len, fun i hi => ?_⟩
  obtain ⟨b, off, e, hc⟩ := h.at_ i hi
  refine ⟨b, off, e, fun j hj q hq => ?_⟩
  have h0 := hc j hj q hq
  have hlt : q < (L.cs xs[j]).length := by rw [L.len]; exact hq
  rw [List.getElem?_eq_getElem hlt] at h0 ⊢
  exact k.cell h0 (hs b (by rw [e]; rfl))
theorem RowAt.keepS {S : Nat → Prop} {w w' : World} {g : Nat} {T : TypeId} (h : RowAt w g T) (k : FrS S w w') (hs : ¬ S g) : RowAt w' g T := by
  obtain ⟨cur, hc⟩ := h
  exact ⟨cur, (k.block g (Array.getElem?_eq_some_iff.1 hc).1 hs).trans hc⟩
theorem OwnI.keepS {S : Nat → Prop} {w w' : World} {base g n c : Nat} {xs : List Int} (h : OwnI w base (.slice (some ⟨g, 0, none⟩) n c) xs) (k : FrS S w w') (hs : ¬ S g) : OwnI w' base (.slice (some ⟨g, 0, none⟩) n c) xs := by
  obtain ⟨⟨h1, h2⟩, h3⟩ := h
  rcases h2 with ⟨e, _⟩ | ⟨g', cap', cur, e, a1, hc, a2⟩
  · cases e
  · cases e
    exact ⟨⟨h1, .inr ⟨g, c, cur, rfl, a1, (k.block g (Array.getElem?_eq_some_iff.1 hc).1 hs).trans hc, a2⟩⟩, h3⟩

structure HL (w : World) (s : Sv) (lvs : List Lv) : Prop where
  ll : lvs.length = s.ll
  tl : totL lvs ≤ 1000
  l1 : s.ll ≤ 1048576
  l2 : s.cl ≤ 1048576
  l3 : s.nl ≤ 1048576
  rl : ReadsG layL w s.lo (mkLs 1 lvs)
  rr : ∀ j (hj : j < lvs.length), Reads w lvs[j].ro (ups (1 + (totL (lvs.take j) : Int) + 2) lvs[j].rn)
  rc : ReadsG layC w s.co (mkC (1 + (totL lvs : Int)) s.cl)
  rn : ReadsG layN w s.no (mkN (1 + (totL lvs : Int) + 5 * (s.cl : Int)) s.nl)
  ro : Reads w s.oo (ups (1 + (totL lvs : Int) + 5 * (s.cl : Int) + 2 * (s.nl : Int)) s.ol)
theorem HL.fr {w w' : World} {s : Sv} {lvs : List Lv} (h : HL w s lvs) (k : Fr w w') : HL w' s lvs :=
  { h with rl := h.rl.fr k, rr := fun j hj => (h.rr j hj).fr k, rc := h.rc.fr k, rn := h.rn.fr k, ro := h.ro.fr k }
def endS (s : Sv) (lvs : List Lv) : Int := 1 + (totL lvs : Int) + 5 * (s.cl : Int) + 2 * (s.nl : Int) + (s.ol : Int)
theorem HL.zero (w : World) : HL w ⟨0, none, 0, 0, none, 0, 0, none, 0, 0, none, 0, 0⟩ [] :=
  ⟨rfl, by simp [totL], by simp, by simp, by simp, ReadsG.nil _ _ _, fun j hj => absurd hj (by simp), ReadsG.nil _ _ _, ReadsG.nil _ _ _, Reads.nil _ _⟩

theorem HL.made {w u1 u2 u3 u4 : World} {base gl gc gn go ll lc cl cc nl nc ol oc : Nat} {lvs : List Lv} (sgi : Int) (hll : ll = lvs.length) (ht : totL lvs ≤ 1000) (l1 : ll ≤ 1048576) (l2 : cl ≤ 1048576) (l3 : nl ≤ 1048576) (ne : gc ≠ gn ∧ gc ≠ go ∧ gn ≠ go) (ap : ∀ x, BlkL gl lvs x → x ≠ gc ∧ x ≠ gn ∧ x ≠ go)
    (M : MX w u1 gl base 1 lvs lvs.length) (C : ReadsG layC u2 (some ⟨gc, 0, none⟩) (mkC (1 + (totL lvs : Int)) cl)) (g2 : u1.grownBy u2 (some gc)) (N : ReadsG layN u3 (some ⟨gn, 0, none⟩) (mkN (1 + (totL lvs : Int) + 5 * (cl : Int)) nl)) (g3 : u2.grownBy u3 (some gn)) (O : OwnI u4 base (.slice (some ⟨go, 0, none⟩) ol oc) (ups (1 + (totL lvs : Int) + 5 * (cl : Int) + 2 * (nl : Int)) ol)) (g4 : u3.grownBy u4 (some go)) :
    HL u4 ⟨sgi, some ⟨gl, 0, none⟩, ll, lc, some ⟨gc, 0, none⟩, cl, cc, some ⟨gn, 0, none⟩, nl, nc, some ⟨go, 0, none⟩, ol, oc⟩ lvs := by
  have a0 := ap gl (.inl rfl)
  have rd : ReadsG layL u1 (some ⟨gl, 0, none⟩) (mkLs 1 lvs) := by simpa using M.rd
  have nb : ∀ {a b : Nat}, a ≠ b → (some b : Option Nat) = none ∨ blk (some ⟨a, 0, none⟩) ≠ some b := fun h => .inr (by simpa [blk] using h)
  refine ⟨hll.symm, ht, l1, l2, l3, ((rd.keep g2 (nb a0.1)).keep g3 (nb a0.2.1)).keep g4 (nb a0.2.2), fun j hj => ?_, (C.keep g3 (nb ne.1)).keep g4 (nb ne.2.1), N.keep g4 (nb ne.2.2), O.reads⟩
  obtain ⟨gj, e, -, o⟩ := M.new j hj hj
  have aj := ap gj (.inr ⟨j, hj, e⟩)
  rw [e]
  have o2 := own_other o g2 aj.1
  have o3 := own_other o2 g3 aj.2.1
  exact (own_other o3 g4 aj.2.2).reads

def Mky (base top : Nat) (w : World) (s : Sv) (m : Scn) : Prop :=
  (∃ gl gc gn go ys, ScO base w s m gl gc gn go ys ∧ ∀ x, (BlkL gl ys x ∨ x = gc ∨ x = gn ∨ x = go) → x < top) ∨ s = ⟨0, none, 0, 0, none, 0, 0, none, 0, 0, none, 0, 0⟩
theorem Mky.fr {base top : Nat} {w w' : World} {s : Sv} {m : Scn} (h : Mky base top w s m) (k : Fr w w') : Mky base top w' s m := by
  rcases h with ⟨gl, gc, gn, go, ys, h, q⟩ | h
  · exact .inl ⟨gl, gc, gn, go, ys, h.fr k, q⟩
  · exact .inr h
theorem Mky.keep {base top : Nat} {w w' : World} {s : Sv} {m : Scn} {row : Nat} (h : Mky base top w s m) (k : w.grownBy w' (some row)) (hr : row < base) : Mky base top w' s m := by
  rcases h with ⟨gl, gc, gn, go, ys, h, q⟩ | h
  · exact .inl ⟨gl, gc, gn, go, ys, h.keep k (.inl hr), q⟩
  · exact .inr h
theorem endS_pos (s : Sv) (lvs : List Lv) : 0 ≤ endS s lvs := by
  unfold endS
  omega
end Go.Proofs.YtcofhmikdkkigaaGreatDoor
