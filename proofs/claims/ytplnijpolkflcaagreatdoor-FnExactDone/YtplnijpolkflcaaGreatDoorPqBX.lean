/-
  Pack BX: ScOrdI, ScScene, ScEq.
-/
import Derived.Test.YtplnijpolkflcaaGreatDoorPqBV
import Derived.Test.YtplnijpolkflcaaGreatDoorPqAE
import Derived.Test.YtplnijpolkflcaaGreatDoorPqAW
import Derived.Test.YtplnijpolkflcaaGreatDoorPqAF
import Derived.Test.YtplnijpolkflcaaGreatDoorPqBN
import Derived.Test.YtplnijpolkflcaaGreatDoorPqAG
namespace Go.Proofs.YtplnijpolkflcaaGreatDoor
open Go.RowKit

set_option maxRecDepth 20000 in
set_option maxHeartbeats 2000000 in
theorem ordI_any (mb n : Nat) (f : Int → Option Value) (xs : List Int) (w : World) (M : MapF w mb n f) (hr : xs.Pairwise (· < ·)) (hk : ∀ o, o ∈ xs ↔ (f o).isSome = true) (hv : ∀ j (hj : j < xs.length), f xs[j] = some (valI xs[j])) (hi : ∀ o ∈ xs, I64 o) (hn : n ≤ 4000000) (hl : xs.length ≤ 1048576) :
    Calls Tryz.prog 118 #[.map (some mb)] w fun e w' => ∃ v, e = .returned v ∧ OwnS w' w.heap.size v xs ∧ Fr w w' := by
  have fE := Fr.alloc w (.cells #[] 2)
  have cK := keysI_any mb (w.alloc (.cells #[] 2))
  have cS := sortedI_any mb n f xs (w.alloc (.cells #[] 2)) (M.fr fE) hr hk hi hn
  have hL : ∀ j (hj : j < xs.length) u, Fr w u → (Instr.lookup 150 (.map (some mb)) (.int .i64 xs[j]) false).run Tryz.prog u = .ok (.int .i64 xs[j]) u := fun j hj u fu => by
    rw [(M.fr fu).look Tryz.underlying150 (zeroI u) (hi _ (List.getElem_mem hj)), hv j hj]
    rfl
  simp only [World.size_alloc] at cS
  have HO : Hid (OwnS (w.alloc (.cells #[] 2)) w.heap.size (.slice (some ⟨w.heap.size, 0, none⟩) 0 0) []) := own_empty w _ (Nat.le_refl _)
  clear M hr hk hv
  go_enter Tryz.func118, Tryz.ntmps118
  go_wp2_with fail
  refine cK.mono ?_
  rintro e w1 ⟨rfl, rfl⟩
  clear cK
  go_wp2_with fail
  refine cS.mono ?_
  rintro e w2 ⟨ao, cap, rfl, R, hab, f2⟩
  clear cS
  have F2 := fE.trans f2
  have HO : Hid (OwnS w2 w.heap.size (.slice (some ⟨w.heap.size, 0, none⟩) 0 0) []) := HO.out.fr f2
  clear fE f2
  go_wp2_with fail
  go_loopw [3, 11] (fun u i wr => ∃ k : Nat, k ≤ xs.length ∧ i = .int .i64 k ∧ OwnS wr w.heap.size u (xs.take k) ∧ Fr w wr ∧ Reads wr ao xs ∧ Hid ((∀ j, u.ownBlock = some j → blk ao ≠ some j) ∧ w2.heap.size ≤ wr.heap.size)) (fun _ i _ => xs.length - (intOf i).toNat)
  case atStart => exact ⟨0, Nat.zero_le _, rfl, HO.out, F2, R, ⟨fun j hj q => by have := (hab j q).1; simp only [Value.ownBlock, Option.some.injEq] at hj; omega, Nat.le_refl _⟩⟩
  case round =>
    clear HO
    obtain ⟨k, hk, rfl, ho, hf, R, HU⟩ := hrel
    have hs := hf.size
    by_cases hlt : k < xs.length
    · have Rk := R
      obtain ⟨b, off, rfl, hc⟩ := Rk.at_ k hlt
      have hck := hc k hlt
      rw [getD_at hlt] at hck
      clear hc Rk
      have hI := hi _ (List.getElem_mem hlt)
      have hLk := hL k hlt wr hf
      have HS : Hid (xs.take (k + 1) = xs.take k ++ [xs[k]]) := List.take_succ_eq_append_getElem hlt
      have hln : (xs.take k).length ≤ k := by simp; omega
      obtain ⟨z, hz⟩ : ∃ z, z = xs[k] := ⟨_, rfl⟩
      rw [← hz] at hck hLk HS hI
      clear hz
      have HA := Fr.alloc wr (.cells #[.int .i64 z] 2)
      have HR : Hid (∀ w4, (wr.alloc (.cells #[.int .i64 z] 2)).grownBy w4 u3.ownBlock → Fr w w4 ∧ Reads w4 (some ⟨b, off, none⟩) xs ∧ w2.heap.size ≤ w4.heap.size) := fun w4 g => ⟨(hf.trans HA).then g ho.blk, (R.fr HA).keep g (.inr (fun q => by
        cases hq : u3.ownBlock with
        | none => rw [hq] at q; simp [blk] at q
        | some j => rw [hq] at q; exact HU.out.1 j hq q)), by have := g.size; have := HA.size; have := HU.out.2; omega⟩
      have hw2 := HU.out.2
      have hb2 := hab b rfl
      have HU := HU.out.1
      clear HA R
      have HU : Hid (∀ j, u3.ownBlock = some j → blk (some (⟨b, off, none⟩ : Addr)) ≠ some j) := HU
      have hm := reads_one wr z hI
      go_wp2_with (at_builtin; refine appI2 _ rfl _ _ rfl w.heap.size _ _ [z] rfl (ho.fr (Fr.alloc _ _)) _ _ _ rfl rfl (by simp) hm (by simp; omega) (by simp; omega) ?_; intro v4 w4 hv4 hg4 hat4)
      obtain ⟨r1, r2, r3⟩ := HR.out w4 hg4
      go_roundw
      case rel =>
        refine ⟨k + 1, by omega, by go_num, by rw [HS.out]; exact hv4, r1, r2, ⟨fun j hj => ?_, r3⟩⟩
        rcases hat4 with q | q
        · rw [q] at hj; exact HU.out j hj
        · rw [q] at hj
          simp only [Option.some.injEq, World.size_alloc] at hj
          simp only [blk, Option.map_some, ne_eq, Option.some.injEq]
          omega
      case measure => simp [intOf]; omega
    · have e : xs.take k = xs := List.take_of_length_le (by omega)
      rw [e] at ho
      have HOX : Hid (OwnS wr w.heap.size u3 xs) := ho
      clear e ho
      go_wp2_with fail
      go_ret
      exact ⟨_, rfl, HOX.out, hf⟩
end Go.Proofs.YtplnijpolkflcaaGreatDoor
namespace Go.Proofs.YtplnijpolkflcaaGreatDoor
open Go.RowKit

theorem find_of_mem {α : Type} (key : α → Int) : ∀ (xs : List α), (xs.map key).Pairwise (· < ·) → ∀ x ∈ xs, xs.find? (fun y => key y == key x) = some x
  | [], _, x, hx => by simp at hx
  | y :: ys, h, x, hx => by
    rw [List.map_cons, List.pairwise_cons] at h
    rcases List.mem_cons.1 hx with rfl | hx
    · rw [List.find?_cons]; simp
    · have h1 := h.1 _ (List.mem_map_of_mem hx)
      rw [List.find?_cons, show (key y == key x) = false by simp; omega]
      exact find_of_mem key ys h.2 x hx
theorem mem_find {α : Type} (key : α → Int) (o : Int) (xs : List α) : o ∈ xs.map key ↔ (xs.find? (fun y => key y == o)).isSome = true := by
  rw [List.find?_isSome, List.mem_map]
  constructor
  · rintro ⟨x, hx, rfl⟩; exact ⟨x, hx, by simp⟩
  · rintro ⟨x, hx, e⟩; exact ⟨x, hx, by simpa using e⟩
theorem lvs_of {B : Nat → Prop} {w : World} {fl : Int → Option Value} : ∀ (ls : List Lk), (∀ l ∈ ls, ∃ lv, fl l.o = some (valL lv) ∧ LkR B w lv l) → ∃ lvs, LksR B w lvs ls ∧ ∀ lv ∈ lvs, fl lv.o = some (valL lv)
  | [], _ => ⟨[], LksR.nil _ _, by simp⟩
  | l :: ls, h => by
    obtain ⟨lv, h1, h2⟩ := h l (List.mem_cons_self ..)
    obtain ⟨lvs, h3, h4⟩ := lvs_of ls fun x hx => h x (List.mem_cons_of_mem _ hx)
    refine ⟨lv :: lvs, ⟨by simp [h3.len], fun j q1 q2 => ?_⟩, fun x hx => ?_⟩
    · cases j with
      | zero => exact h2
      | succ j => exact h3.at_ j (by simpa using q1) (by simpa using q2)
    · rcases List.mem_cons.1 hx with rfl | hx
      · rw [h2.o]; exact h1
      · exact h4 x hx
theorem BoardW.lks {lo : Nat × Nat} {w : World} {b b1 b2 b3 b4 n : Nat} {m : Scn} (h : BoardW lo w b b1 b2 b3 b4 n m) (hm : scB m = true) : ∃ fl lvs, MapF w b1 n fl ∧ LksR (Off lo) w lvs m.ls ∧ (∀ j (hj : j < lvs.length), fl lvs[j].o = some (valL lvs[j])) ∧ (∀ o, o ∈ lvs.map Lv.o ↔ (fl o).isSome = true) := by
  obtain ⟨fl, M, hf⟩ := h.m1
  have hr := (sc_rise hm).1
  obtain ⟨lvs, h1, h2⟩ := lvs_of (B := Off lo) (w := w) (fl := fl) m.ls (fun l hl => by
    have h3 := find_of_mem Lk.o m.ls hr l hl
    rcases hf l.o with ⟨q, _⟩ | ⟨lk, lv, q1, q2, q3⟩
    · rw [q] at h3; cases h3
    · rw [q1] at h3; cases h3; exact ⟨lv, q2, q3⟩)
  refine ⟨fl, lvs, M, h1, fun j hj => h2 _ (List.getElem_mem hj), fun o => ?_⟩
  rw [lk_os _ _ h1, mem_find]
  rcases hf o with ⟨q, q2⟩ | ⟨lk, lv, q1, q2, q3⟩
  · rw [q, q2]; simp
  · rw [q1, q2]; simp

theorem reads_setR {w : World} {g k : Nat} {ys : List Lv} {ao : Option Addr} {rn rc : Nat} (h : ReadsG layL w (some ⟨g, 0, none⟩) ys) (hk : k < ys.length) :
    ReadsG layL (w.setCell ⟨g, k * 3 + 2, none⟩ (.slice ao rn rc)) (some ⟨g, 0, none⟩) (ys.set k { ys[k] with ro := ao, rn := rn, rc := rc }) := by
  refine ⟨by simpa using h.len, fun i hi => ⟨g, 0, rfl, fun j hj q hq => ?_⟩⟩
  obtain ⟨b, off, e, hc⟩ := h.at_ k hk
  simp only [Option.some.injEq, Addr.mk.injEq, and_true] at e
  obtain ⟨rfl, rfl⟩ := e
  have hj' : j < ys.length := by simpa using hj
  have hq' : q < 3 := hq
  have h0 := hc j hj' q hq
  have hsz : layL.sz = 3 := rfl
  by_cases hjk : j = k
  · subst hjk
    by_cases hq2 : q = 2
    · subst hq2
      have : (0 + j * layL.sz + 2) = j * 3 + 2 := by rw [hsz]; omega
      rw [this] at h0 ⊢
      rw [World.cell?_setCell_same' _ _ _ (by rw [h0]; rfl)]
      simp [layL]
    · have : (0 + j * layL.sz + q) ≠ j * 3 + 2 := by rw [hsz]; omega
      have hne : (⟨g, 0 + j * layL.sz + q, none⟩ : Addr) ≠ ⟨g, j * 3 + 2, none⟩ := fun e => this (by injection e)
      rw [World.cell?_setCell_other _ _ _ _ hne.symm, h0, List.getElem_set_self]
      have : q = 0 ∨ q = 1 := by omega
      rcases this with rfl | rfl <;> rfl
  · have : (0 + j * layL.sz + q) ≠ k * 3 + 2 := by rw [hsz]; omega
    have hne : (⟨g, 0 + j * layL.sz + q, none⟩ : Addr) ≠ ⟨g, k * 3 + 2, none⟩ := fun e => this (by injection e)
    rw [World.cell?_setCell_other _ _ _ _ hne.symm, h0, List.getElem_set_ne (fun e => hjk e.symm)]

structure LX (w wr : World) (g k : Nat) (lvs ys : List Lv) (ls : List Lk) : Prop where
  fr : Fr w wr
  ge : w.heap.size ≤ g
  row : ∃ cur, wr.heap[g]? = some (.cells cur 82 (0, 0))
  rd : ReadsG layL wr (some ⟨g, 0, none⟩) ys
  len : ys.length = ls.length
  new : ∀ j (h1 : j < ys.length) (h2 : j < ls.length), j < k → LkR (fun x => w.heap.size < x ∧ x < wr.heap.size ∧ x ≠ g) wr ys[j] ls[j]
  old : ∀ j (h1 : j < ys.length) (h2 : j < lvs.length), k ≤ j → ys[j] = lvs[j]
  ow : ∀ j (h1 : j < ys.length) (h2 : j < ls.length), j < k → ∃ gj, ys[j].ro = some ⟨gj, 0, none⟩ ∧ gj ≠ g ∧ gj < wr.heap.size ∧ OwnI wr w.heap.size (.slice (some ⟨gj, 0, none⟩) ys[j].rn ys[j].rc) ls[j].rd
  ap : ∀ i j (h1 : i < ys.length) (h2 : j < ys.length), i < k → j < k → i ≠ j → ys[i].ro ≠ ys[j].ro
theorem LX.glt {w wr : World} {g k : Nat} {lvs ys : List Lv} {ls : List Lk} (h : LX w wr g k lvs ys ls) : g < wr.heap.size := by
  obtain ⟨cur, hc⟩ := h.row
  exact (Array.getElem?_eq_some_iff.1 hc).1
theorem LX.grow {w wr w' : World} {g k : Nat} {lvs ys : List Lv} {ls : List Lk} (h : LX w wr g k lvs ys ls) (f : Fr wr w') : LX w w' g k lvs ys ls := by
  obtain ⟨cur, hc⟩ := h.row
  have hs := f.size
  exact ⟨h.fr.trans f, h.ge, ⟨cur, (f.block g h.glt (by simp)).trans hc⟩, h.rd.fr f, h.len, fun j h1 h2 hk => ((h.new j h1 h2 hk).fr f).mono (fun x q => ⟨q.1, by omega, q.2.2⟩), h.old, fun j h1 h2 hk => by
    obtain ⟨gj, a1, a2, a3, a4⟩ := h.ow j h1 h2 hk
    exact ⟨gj, a1, a2, by omega, a4.fr f⟩, h.ap⟩
theorem LX.put {w wr : World} {g k g2 c2 : Nat} {lvs ys : List Lv} {ls : List Lk} (h : LX w wr g k lvs ys ls) (hk : k < ys.length) (hk2 : k < ls.length) (hk3 : k < lvs.length) (hL : LkR (fun _ => True) wr lvs[k] ls[k]) (O : OwnI wr w.heap.size (.slice (some ⟨g2, 0, none⟩) ls[k].rd.length c2) ls[k].rd) (hfr : ∀ j (h1 : j < ys.length), j < k → ys[j].ro ≠ some ⟨g2, 0, none⟩) (hg2 : w.heap.size < g2 ∧ g2 < wr.heap.size ∧ g2 ≠ g) :
    LX w (wr.setCell ⟨g, k * 3 + 2, none⟩ (.slice (some ⟨g2, 0, none⟩) ls[k].rd.length c2)) g (k + 1) lvs (ys.set k { ys[k] with ro := some ⟨g2, 0, none⟩, rn := ls[k].rd.length, rc := c2 }) ls := by
  obtain ⟨cur, hc⟩ := h.row
  have ks := grown_set wr g (k * 3 + 2) (.slice (some ⟨g2, 0, none⟩) ls[k].rd.length c2)
  have hs := ks.size
  have he := h.old k hk (by omega) (Nat.le_refl _)
  have hg := h.ge
  refine ⟨h.fr.then ks (fun j hj => by simp only [Option.some.injEq] at hj; omega), hg, ⟨_, heap_setCell_same wr g (k * 3 + 2) _ _ _ hc⟩, reads_setR h.rd hk, by simpa using h.len, fun j h1 h2 hj => ?_, fun j h1 h2 hj => ?_, fun j h1 h2 hj => ?_, fun i j h1 h2 hi hj hij => ?_⟩
  · by_cases e : j = k
    · subst e
      rw [List.getElem_set_self]
      refine ⟨by simp only [he]; exact hL.o, by simp only [he]; exact hL.wr, rfl, O.reads.keep ks (.inr (by simp [blk]; omega)), fun b q => ?_, fun q => by simp at q, hL.sz, hL.io, hL.iw⟩
      simp only [blk, Option.map_some, Option.some.injEq] at q
      subst q
      exact ⟨hg2.1, by omega, hg2.2.2⟩
    · rw [List.getElem_set_ne (fun q => e q.symm)]
      exact ((h.new j (by simpa using h1) h2 (by omega)).keep ks (fun x hx => by cases hx; exact fun q => q.2.2 rfl)).mono (fun x q => ⟨q.1, by omega, q.2.2⟩)
  · rw [List.getElem_set_ne (by omega)]
    exact h.old j (by simpa using h1) h2 (by omega)
  · by_cases e : j = k
    · subst e
      rw [List.getElem_set_self]
      exact ⟨g2, rfl, hg2.2.2, by omega, O.keep ks (.inr (by simp [Value.ownBlock]; omega))⟩
    · rw [List.getElem_set_ne (fun q => e q.symm)]
      obtain ⟨gj, a1, a2, a3, a4⟩ := h.ow j (by simpa using h1) h2 (by omega)
      exact ⟨gj, a1, a2, by omega, a4.keep ks (.inr (by simp [Value.ownBlock]; omega))⟩
  · have h1' : i < ys.length := by simpa using h1
    have h2' : j < ys.length := by simpa using h2
    by_cases e1 : i = k
    · subst e1
      rw [List.getElem_set_self, List.getElem_set_ne (fun q => hij q)]
      exact fun q => hfr j h2' (by omega) q.symm
    · by_cases e2 : j = k
      · subst e2
        rw [List.getElem_set_self, List.getElem_set_ne (fun q => e1 q.symm)]
        exact hfr i h1' (by omega)
      · rw [List.getElem_set_ne (fun q => e1 q.symm), List.getElem_set_ne (fun q => e2 q.symm)]
        exact h.ap i j h1' h2' (by omega) (by omega) hij
end Go.Proofs.YtplnijpolkflcaaGreatDoor
namespace Go.Proofs.YtplnijpolkflcaaGreatDoor
open Go.RowKit

set_option maxHeartbeats 600000 in
theorem eqLock_same {B B' : Nat → Prop} (a b : Lv) (l : Lk) (w : World) (h : LkR B w a l) (h' : LkR B' w b l) :
    Calls Tryz.prog 158 #[.agg #[.int .i64 a.o, .int .i64 a.wr, .slice a.ro a.rn a.rc], .agg #[.int .i64 b.o, .int .i64 b.wr, .slice b.ro b.rn b.rc]] w fun e w' => e = .returned (.bool true) ∧ Fr w w' := by
  have f1 := Fr.alloc w (.cells #[.int .i64 a.o, .int .i64 a.wr, .slice a.ro a.rn a.rc] 82)
  have f2 := Fr.alloc (w.alloc (.cells #[.int .i64 a.o, .int .i64 a.wr, .slice a.ro a.rn a.rc] 82)) (.cells #[.int .i64 b.o, .int .i64 b.wr, .slice b.ro b.rn b.rc] 82)
  have e1 : a.o = b.o := h.o.trans h'.o.symm
  have e2 : a.wr = b.wr := h.wr.trans h'.wr.symm
  have cI := eqI_any a.ro b.ro a.rn b.rn a.rc b.rc l.rd l.rd ((w.alloc (.cells #[.int .i64 a.o, .int .i64 a.wr, .slice a.ro a.rn a.rc] 82)).alloc (.cells #[.int .i64 b.o, .int .i64 b.wr, .slice b.ro b.rn b.rc] 82)) h.rn.symm h'.rn.symm (h.rd.fr (f1.trans f2)) (h'.rd.fr (f1.trans f2))
  rw [decide_eq_true rfl] at cI
  have F := f1.trans f2
  clear h h' f1 f2
  obtain ⟨ao, aw, ar, an, ac⟩ := a
  obtain ⟨bo, bw, br, bn, bc⟩ := b
  simp only at e1 e2 cI F ⊢
  subst e1 e2
  go_enter Tryz.func158, Tryz.ntmps158
  go_wp2_with fail
  refine cI.mono ?_
  rintro e u1 ⟨rfl, nq, rfl⟩
  go_wp2_with fail
  go_ret
  exact ⟨rfl, F.trans (Fr.drewN _ nq)⟩

set_option maxHeartbeats 600000 in
theorem eqChan_same (c : Ch) (w : World) :
    Calls Tryz.prog 159 #[.agg #[.int .i64 c.o, .int .i64 c.cap, .int .i64 c.sent, .int .i64 c.got, .bool c.cl], .agg #[.int .i64 c.o, .int .i64 c.cap, .int .i64 c.sent, .int .i64 c.got, .bool c.cl]] w fun e w' => e = .returned (.bool true) ∧ Fr w w' := by
  have F := (Fr.alloc w (.cells #[.int .i64 c.o, .int .i64 c.cap, .int .i64 c.sent, .int .i64 c.got, .bool c.cl] 85)).trans (Fr.alloc _ (.cells #[.int .i64 c.o, .int .i64 c.cap, .int .i64 c.sent, .int .i64 c.got, .bool c.cl] 85))
  obtain ⟨o, cap, sent, got, cl⟩ := c
  simp only at F ⊢
  cases cl
  · go_enter Tryz.func159, Tryz.ntmps159
    go_wp2_with fail
    go_ret
    exact ⟨rfl, F⟩
  · go_enter Tryz.func159, Tryz.ntmps159
    go_wp2_with fail
    go_ret
    exact ⟨rfl, F⟩

set_option maxHeartbeats 600000 in
theorem eqCount_same (c : Ct) (w : World) :
    Calls Tryz.prog 160 #[.agg #[.int .i64 c.o, .int .i64 c.n], .agg #[.int .i64 c.o, .int .i64 c.n]] w fun e w' => e = .returned (.bool true) ∧ Fr w w' := by
  have F := (Fr.alloc w (.cells #[.int .i64 c.o, .int .i64 c.n] 88)).trans (Fr.alloc _ (.cells #[.int .i64 c.o, .int .i64 c.n] 88))
  obtain ⟨o, n⟩ := c
  simp only at F ⊢
  go_enter Tryz.func160, Tryz.ntmps160
  go_wp2_with fail
  go_ret
  exact ⟨rfl, F⟩

set_option maxHeartbeats 1000000 in
theorem eqCountS_same (ao bo : Option Addr) (n c d : Nat) (es : List Ct) (w : World) (hn : es.length = n) (hl : es.length ≤ 1048576) (h : ReadsG layN w ao es) (h' : ReadsG layN w bo es) :
    Calls Tryz.prog 92 #[.slice ao n c, .slice bo n d] w fun e w' => e = .returned (.bool true) ∧ Fr w w' := by
  subst hn
  go_enter Tryz.func92, Tryz.ntmps92
  go_wp2_with fail
  go_loopw [5] (fun i wr => ∃ k : Nat, k ≤ es.length ∧ i = .int .i64 k ∧ Fr w wr) (fun i _ => es.length - (intOf i).toNat)
  case atStart => exact ⟨0, Nat.zero_le _, rfl, Fr.refl w⟩
  case round =>
    obtain ⟨k, hk, rfl, hf⟩ := hrel
    by_cases hlt : k < es.length
    · obtain ⟨b, off, rfl, a0, a1⟩ := ct_at (h.fr hf) k hlt
      obtain ⟨b', off', rfl, x0, x1⟩ := ct_at (h'.fr hf) k hlt
      obtain ⟨e, he⟩ : ∃ e, e = es[k] := ⟨_, rfl⟩
      simp only [← he] at a0 a1 x0 x1
      clear he
      have cE := fun (s : Later wr) => eqCount_same e s.u
      have := Later.some wr
      have p0 : ∀ s : Later wr, s.u.cell? ⟨b, off + k * 2, none⟩ = some (.int .i64 e.o) := fun s => s.fr.cell a0
      have p1 : ∀ s : Later wr, s.u.cell? ⟨b, off + k * 2 + 1, none⟩ = some (.int .i64 e.n) := fun s => s.fr.cell a1
      have q0 : ∀ s : Later wr, s.u.cell? ⟨b', off' + k * 2, none⟩ = some (.int .i64 e.o) := fun s => s.fr.cell x0
      have q1 : ∀ s : Later wr, s.u.cell? ⟨b', off' + k * 2 + 1, none⟩ = some (.int .i64 e.n) := fun s => s.fr.cell x1
      clear a0 a1 x0 x1
      go_wp2_with fail
      refine wp_region_grown (by kernel_rfl) (by kernel_rfl) ?_
      repeat (go_big_quiet_step (with_reducible exact Calls.grown_of (cE _)))
      refine wpQuiet_nil ?_
      rintro _ ⟨s, rfl⟩
      go_wp2_with fail
      go_roundw
      case rel => exact ⟨k + 1, by omega, by go_num, hf.trans s.fr⟩
      case measure => simp [intOf]; omega
    · go_wp2_with fail
      go_ret
      exact ⟨rfl, hf⟩

set_option maxHeartbeats 1000000 in
theorem eqChanS_same (ao bo : Option Addr) (n c d : Nat) (es : List Ch) (w : World) (hn : es.length = n) (hl : es.length ≤ 1048576) (h : ReadsG layC w ao es) (h' : ReadsG layC w bo es) :
    Calls Tryz.prog 91 #[.slice ao n c, .slice bo n d] w fun e w' => e = .returned (.bool true) ∧ Fr w w' := by
  subst hn
  go_enter Tryz.func91, Tryz.ntmps91
  go_wp2_with fail
  go_loopw [5] (fun i wr => ∃ k : Nat, k ≤ es.length ∧ i = .int .i64 k ∧ Fr w wr) (fun i _ => es.length - (intOf i).toNat)
  case atStart => exact ⟨0, Nat.zero_le _, rfl, Fr.refl w⟩
  case round =>
    obtain ⟨k, hk, rfl, hf⟩ := hrel
    by_cases hlt : k < es.length
    · obtain ⟨b, off, rfl, a0, a1, a2, a3, a4⟩ := ch_at (h.fr hf) k hlt
      obtain ⟨b', off', rfl, x0, x1, x2, x3, x4⟩ := ch_at (h'.fr hf) k hlt
      obtain ⟨e, he⟩ : ∃ e, e = es[k] := ⟨_, rfl⟩
      simp only [← he] at a0 a1 a2 a3 a4 x0 x1 x2 x3 x4
      clear he
      have cE := fun (s : Later wr) => eqChan_same e s.u
      have := Later.some wr
      have p0 : ∀ s : Later wr, s.u.cell? ⟨b, off + k * 5, none⟩ = some (.int .i64 e.o) := fun s => s.fr.cell a0
      have p1 : ∀ s : Later wr, s.u.cell? ⟨b, off + k * 5 + 1, none⟩ = some (.int .i64 e.cap) := fun s => s.fr.cell a1
      have p2 : ∀ s : Later wr, s.u.cell? ⟨b, off + k * 5 + 2, none⟩ = some (.int .i64 e.sent) := fun s => s.fr.cell a2
      have p3 : ∀ s : Later wr, s.u.cell? ⟨b, off + k * 5 + 3, none⟩ = some (.int .i64 e.got) := fun s => s.fr.cell a3
      have p4 : ∀ s : Later wr, s.u.cell? ⟨b, off + k * 5 + 4, none⟩ = some (.bool e.cl) := fun s => s.fr.cell a4
      have q0 : ∀ s : Later wr, s.u.cell? ⟨b', off' + k * 5, none⟩ = some (.int .i64 e.o) := fun s => s.fr.cell x0
      have q1 : ∀ s : Later wr, s.u.cell? ⟨b', off' + k * 5 + 1, none⟩ = some (.int .i64 e.cap) := fun s => s.fr.cell x1
      have q2 : ∀ s : Later wr, s.u.cell? ⟨b', off' + k * 5 + 2, none⟩ = some (.int .i64 e.sent) := fun s => s.fr.cell x2
      have q3 : ∀ s : Later wr, s.u.cell? ⟨b', off' + k * 5 + 3, none⟩ = some (.int .i64 e.got) := fun s => s.fr.cell x3
      have q4 : ∀ s : Later wr, s.u.cell? ⟨b', off' + k * 5 + 4, none⟩ = some (.bool e.cl) := fun s => s.fr.cell x4
      clear a0 a1 a2 a3 a4 x0 x1 x2 x3 x4
      go_wp2_with fail
      refine wp_region_grown (by kernel_rfl) (by kernel_rfl) ?_
      repeat (go_big_quiet_step (with_reducible exact Calls.grown_of (cE _)))
      refine wpQuiet_nil ?_
      rintro _ ⟨s, rfl⟩
      go_wp2_with fail
      go_roundw
      case rel => exact ⟨k + 1, by omega, by go_num, hf.trans s.fr⟩
      case measure => simp [intOf]; omega
    · go_wp2_with fail
      go_ret
      exact ⟨rfl, hf⟩

set_option maxHeartbeats 1000000 in
theorem eqLockS_same {B B' : Nat → Prop} (ao bo : Option Addr) (n c d : Nat) (es fs : List Lv) (ls : List Lk) (w : World) (hn : es.length = n) (hl : es.length ≤ 1048576) (h : ReadsG layL w ao es) (h' : ReadsG layL w bo fs) (hL : LksR B w es ls) (hL' : LksR B' w fs ls) :
    Calls Tryz.prog 90 #[.slice ao n c, .slice bo n d] w fun e w' => e = .returned (.bool true) ∧ Fr w w' := by
  subst hn
  have HL : Hid (es.length = ls.length ∧ fs.length = ls.length) := ⟨hL.len, hL'.len⟩
  go_enter Tryz.func90, Tryz.ntmps90
  go_wp2_with fail
  go_loopw [5] (fun i wr => ∃ k : Nat, k ≤ es.length ∧ i = .int .i64 k ∧ Fr w wr) (fun i _ => es.length - (intOf i).toNat)
  case atStart => exact ⟨0, Nat.zero_le _, rfl, Fr.refl w⟩
  case round =>
    obtain ⟨k, hk, rfl, hf⟩ := hrel
    by_cases hlt : k < es.length
    · have hlt2 : k < fs.length := by have := HL.out; omega
      have hlt3 : k < ls.length := by have := HL.out; omega
      obtain ⟨b, off, rfl, a0, a1, a2⟩ := lv_at (h.fr hf) k hlt
      obtain ⟨b', off', rfl, x0, x1, x2⟩ := lv_at (h'.fr hf) k hlt2
      have cE := fun (s : Later wr) => eqLock_same es[k] fs[k] ls[k] s.u ((hL.at_ k hlt hlt3).fr (hf.trans s.fr)) ((hL'.at_ k hlt2 hlt3).fr (hf.trans s.fr))
      obtain ⟨e, he⟩ : ∃ e, e = es[k] := ⟨_, rfl⟩
      obtain ⟨e2, he2⟩ : ∃ e2, e2 = fs[k] := ⟨_, rfl⟩
      simp only [← he, ← he2] at a0 a1 a2 x0 x1 x2 cE
      clear he he2 hlt2 hlt3
      have := Later.some wr
      have p0 : ∀ s : Later wr, s.u.cell? ⟨b, off + k * 3, none⟩ = some (.int .i64 e.o) := fun s => s.fr.cell a0
      have p1 : ∀ s : Later wr, s.u.cell? ⟨b, off + k * 3 + 1, none⟩ = some (.int .i64 e.wr) := fun s => s.fr.cell a1
      have p2 : ∀ s : Later wr, s.u.cell? ⟨b, off + k * 3 + 2, none⟩ = some (.slice e.ro e.rn e.rc) := fun s => s.fr.cell a2
      have q0 : ∀ s : Later wr, s.u.cell? ⟨b', off' + k * 3, none⟩ = some (.int .i64 e2.o) := fun s => s.fr.cell x0
      have q1 : ∀ s : Later wr, s.u.cell? ⟨b', off' + k * 3 + 1, none⟩ = some (.int .i64 e2.wr) := fun s => s.fr.cell x1
      have q2 : ∀ s : Later wr, s.u.cell? ⟨b', off' + k * 3 + 2, none⟩ = some (.slice e2.ro e2.rn e2.rc) := fun s => s.fr.cell x2
      clear a0 a1 a2 x0 x1 x2
      go_wp2_with fail
      refine wp_region_grown (by kernel_rfl) (by kernel_rfl) ?_
      repeat (go_big_quiet_step (with_reducible exact Calls.grown_of (cE _)))
      refine wpQuiet_nil ?_
      rintro _ ⟨s, rfl⟩
      go_wp2_with fail
      go_roundw
      case rel => exact ⟨k + 1, by omega, by go_num, hf.trans s.fr⟩
      case measure => simp [intOf]; omega
    · go_wp2_with fail
      go_ret
      exact ⟨rfl, hf⟩

set_option maxHeartbeats 1000000 in
theorem eqScene_same {B B' : Nat → Prop} (s t : Sv) (m : Scn) (w : World) (h : ScR B w s m) (h' : ScR B' w t m) :
    Calls Tryz.prog 35 #[.agg #[.int .i64 s.g, .slice s.lo s.ll s.lc, .slice s.co s.cl s.cc, .slice s.no s.nl s.nc, .slice s.oo s.ol s.oc], .agg #[.int .i64 t.g, .slice t.lo t.ll t.lc, .slice t.co t.cl t.cc, .slice t.no t.nl t.nc, .slice t.oo t.ol t.oc]] w fun e w' => e = .returned (.bool true) ∧ Fr w w' := by
  have f1 := Fr.alloc w (.cells #[.int .i64 s.g, .slice s.lo s.ll s.lc, .slice s.co s.cl s.cc, .slice s.no s.nl s.nc, .slice s.oo s.ol s.oc] 29)
  have f2 := Fr.alloc (w.alloc (.cells #[.int .i64 s.g, .slice s.lo s.ll s.lc, .slice s.co s.cl s.cc, .slice s.no s.nl s.nc, .slice s.oo s.ol s.oc] 29)) (.cells #[.int .i64 t.g, .slice t.lo t.ll t.lc, .slice t.co t.cl t.cc, .slice t.no t.nl t.nc, .slice t.oo t.ol t.oc] 29)
  have k1 := (ScK.new w s).fr f2
  have k2 := ScK.new (w.alloc (.cells #[.int .i64 s.g, .slice s.lo s.ll s.lc, .slice s.co s.cl s.cc, .slice s.no s.nl s.nc, .slice s.oo s.ol s.oc] 29)) t
  simp only [World.size_alloc] at k2
  have F := f1.trans f2
  obtain ⟨es, r1, n1, L1⟩ := h.lks
  obtain ⟨fs, r2, n2, L2⟩ := h'.lks
  have eg : s.g = t.g := h.g.trans h'.g.symm
  have el : s.ll = t.ll := by rw [n1, n2, L1.len, L2.len]
  have ec : s.cl = t.cl := h.cl.trans h'.cl.symm
  have en : s.nl = t.nl := h.nl.trans h'.nl.symm
  have cL := fun u (f : Fr w u) => eqLockS_same s.lo t.lo s.ll s.lc t.lc es fs m.ls u n1.symm (by rw [L1.len]; exact h.sl) (r1.fr f) (r2.fr f) (L1.fr f) (L2.fr f)
  have cC := fun u (f : Fr w u) => eqChanS_same s.co t.co s.cl s.cc t.cc m.cs u h.cl.symm h.sc (h.chs.fr f) (h'.chs.fr f)
  have cN := fun u (f : Fr w u) => eqCountS_same s.no t.no s.nl s.nc t.nc m.gs u h.nl.symm h.sn (h.cts.fr f) (h'.cts.fr f)
  have cO := fun u (f : Fr w u) => eqI_any s.oo t.oo s.ol t.ol s.oc t.oc m.os m.os u h.ol.symm h'.ol.symm (h.ons.fr f) (h'.ons.fr f)
  simp only [decide_true] at cO
  clear h h' r1 n1 L1 r2 n2 L2 f1 f2
  obtain ⟨sg, slo, sll, slc, sco, scl, scc, sno, snl, snc, soo, sol, soc⟩ := s
  obtain ⟨tg, tlo, tll, tlc, tco, tcl, tcc, tno, tnl, tnc, too, tol, toc⟩ := t
  simp only at k1 k2 F eg el ec en cL cC cN cO ⊢
  subst eg el ec en
  go_enter Tryz.func35, Tryz.ntmps35
  go_wp2_with fail
  obtain ⟨W, hW⟩ : ∃ W, W = (w.alloc (.cells #[.int .i64 sg, .slice slo sll slc, .slice sco scl scc, .slice sno snl snc, .slice soo sol soc] 29)).alloc (.cells #[.int .i64 sg, .slice tlo sll tlc, .slice tco scl tcc, .slice tno snl tnc, .slice too tol toc] 29) := ⟨_, rfl⟩
  rw [← hW] at k1 k2 F ⊢
  clear hW
  have HQ : Hid (∀ u, Fr W u → ScB u w.heap.size ⟨sg, slo, sll, slc, sco, scl, scc, sno, snl, snc, soo, sol, soc⟩ ∧ ScB u (w.heap.size + 1) ⟨sg, tlo, sll, tlc, tco, scl, tcc, tno, snl, tnc, too, tol, toc⟩) := fun u f => ⟨(k1.fr f).at, (k2.fr f).at⟩
  clear k1 k2
  refine (cL _ F).mono ?_
  rintro e u1 ⟨rfl, f1⟩
  obtain ⟨⟨s0, s1, s2, s3, s4⟩, ⟨t0, t1, t2, t3, t4⟩⟩ := HQ.out _ f1
  simp only at s0 s1 s2 s3 s4 t0 t1 t2 t3 t4
  go_wp2_with fail
  refine (cC _ (F.trans f1)).mono ?_
  rintro e u2 ⟨rfl, f2⟩
  clear s0 s1 s2 s3 s4 t0 t1 t2 t3 t4
  have f2 := f1.trans f2
  obtain ⟨⟨s0, s1, s2, s3, s4⟩, ⟨t0, t1, t2, t3, t4⟩⟩ := HQ.out _ f2
  simp only at s0 s1 s2 s3 s4 t0 t1 t2 t3 t4
  go_wp2_with fail
  refine (cN _ (F.trans f2)).mono ?_
  rintro e u3 ⟨rfl, f3⟩
  clear s0 s1 s2 s3 s4 t0 t1 t2 t3 t4
  have f3 := f2.trans f3
  obtain ⟨⟨s0, s1, s2, s3, s4⟩, ⟨t0, t1, t2, t3, t4⟩⟩ := HQ.out _ f3
  simp only at s0 s1 s2 s3 s4 t0 t1 t2 t3 t4
  go_wp2_with fail
  refine (cO _ (F.trans f3)).mono ?_
  rintro e u4 ⟨rfl, nq, rfl⟩
  clear s0 s1 s2 s3 s4 t0 t1 t2 t3 t4
  go_wp2_with fail
  go_ret
  exact ⟨rfl, (F.trans f3).trans (Fr.drewN _ nq)⟩
end Go.Proofs.YtplnijpolkflcaaGreatDoor
