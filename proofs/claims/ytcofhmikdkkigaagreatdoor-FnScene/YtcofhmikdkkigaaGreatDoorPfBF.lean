/-
  Pack BF: ScMark, ScMarkC, ScMarkL, ScOfO.
-/
import Derived.Test.YtcofhmikdkkigaaGreatDoorPfAF
import Derived.Test.YtcofhmikdkkigaaGreatDoorPfAE
import Derived.Test.YtcofhmikdkkigaaGreatDoorPfAZ
import Derived.Test.YtcofhmikdkkigaaGreatDoorPfAT
import Derived.Test.YtcofhmikdkkigaaGreatDoorPfAR
namespace Go.Proofs.YtcofhmikdkkigaaGreatDoor
open Go.RowKit

theorem reads_cell {α : Type} {L : Lay α} {w : World} {g k q : Nat} {xs : List α} {e : α} {v : Value} (h : ReadsG L w (some ⟨g, 0, none⟩) xs) (hk : k < xs.length) (hq : q < L.sz) (he : L.cs e = (L.cs xs[k]).set q v) :
    ReadsG L (w.setCell ⟨g, k * L.sz + q, none⟩ v) (some ⟨g, 0, none⟩) (xs.set k e) := by
  refine ⟨by simpa using h.len, fun i hi => ⟨g, 0, rfl, fun j hj r hr => ?_⟩⟩
  obtain ⟨b, off, e0, hc⟩ := h.at_ k hk
  simp only [Option.some.injEq, Addr.mk.injEq, and_true] at e0
  obtain ⟨rfl, rfl⟩ := e0
  have hj' : j < xs.length := by simpa using hj
  have h0 := hc j hj' r hr
  have hlen := L.len xs[k]
  rw [Nat.zero_add] at h0 ⊢
  by_cases hjk : j = k
  · subst hjk
    rw [List.getElem_set_self, he]
    by_cases hrq : r = q
    · subst hrq
      have hs : (w.cell? ⟨g, j * L.sz + r, none⟩).isSome = true := by rw [h0, List.getElem?_eq_getElem (by omega)]; rfl
      rw [World.cell?_setCell_same' _ _ _ hs, List.getElem?_set_self (by omega)]
    · have hne : (⟨g, j * L.sz + q, none⟩ : Addr) ≠ ⟨g, j * L.sz + r, none⟩ := fun e => hrq (by injection e; omega)
      rw [World.cell?_setCell_other _ _ _ _ hne, h0, List.getElem?_set_ne (fun q2 => hrq q2.symm)]
  · have hmul : j * L.sz + r ≠ k * L.sz + q := by
      intro e1
      have p1 : (j * L.sz + r) / L.sz = j := by rw [Nat.mul_comm, Nat.mul_add_div L.pos, Nat.div_eq_of_lt hr, Nat.add_zero]
      have p2 : (k * L.sz + q) / L.sz = k := by rw [Nat.mul_comm, Nat.mul_add_div L.pos, Nat.div_eq_of_lt hq, Nat.add_zero]
      rw [e1, p2] at p1
      exact hjk p1.symm
    have hne : (⟨g, k * L.sz + q, none⟩ : Addr) ≠ ⟨g, j * L.sz + r, none⟩ := fun e => hmul (by injection e; omega)
    rw [World.cell?_setCell_other _ _ _ _ hne, h0, List.getElem_set_ne (fun e => hjk e.symm)]
theorem set_mid {α : Type} (A : List α) (x e : α) (B : List α) (k : Nat) (hk : A.length = k) : (A ++ x :: B).set k e = A ++ [e] ++ B := by
  subst hk
  simp
def RowAt (w : World) (g : Nat) (T : TypeId) : Prop := ∃ cur, w.heap[g]? = some (.cells cur T (0, 0))
theorem RowAt.free {w : World} {g : Nat} {T : TypeId} (h : RowAt w g T) (i : Nat) : w.frozen? ⟨g, i, none⟩ = false := by
  obtain ⟨cur, hc⟩ := h
  exact frozen_of_row w g i _ _ hc
theorem RowAt.set {w : World} {g : Nat} {T : TypeId} (h : RowAt w g T) (i : Nat) (v : Value) : RowAt (w.setCell ⟨g, i, none⟩ v) g T := by
  obtain ⟨cur, hc⟩ := h
  exact ⟨_, heap_setCell_same w g i _ _ v hc⟩

def upN (q : Int) : Ct := ⟨q, q + 1⟩
def mkN (q : Int) (n : Nat) : List Ct := (List.range n).map fun i : Nat => upN (q + 2 * (i : Int))
theorem mkN_length (q : Int) (n : Nat) : (mkN q n).length = n := by simp [mkN]
theorem mkN_succ (q : Int) (n : Nat) : mkN q (n + 1) = mkN q n ++ [upN (q + 2 * (n : Int))] := by simp [mkN, List.range_succ]
theorem mkN_at (q : Int) (n j : Nat) (h : j < (mkN q n).length) : (mkN q n)[j] = upN (q + 2 * (j : Int)) := by simp [mkN]

end Go.Proofs.YtcofhmikdkkigaaGreatDoor
namespace Go.Proofs.YtcofhmikdkkigaaGreatDoor
open Go.RowKit

def upC (q : Int) : Ch := ⟨q, q + 1, q + 1 + 1, q + 1 + 1 + 1, (q + 1 + 1 + 1 + 1) % 3 == 0⟩
def mkC (q : Int) (n : Nat) : List Ch := (List.range n).map fun i : Nat => upC (q + 5 * (i : Int))
theorem mkC_length (q : Int) (n : Nat) : (mkC q n).length = n := by simp [mkC]
theorem mkC_succ (q : Int) (n : Nat) : mkC q (n + 1) = mkC q n ++ [upC (q + 5 * (n : Int))] := by simp [mkC, List.range_succ]
theorem mkC_at (q : Int) (n j : Nat) (h : j < (mkC q n).length) : (mkC q n)[j] = upC (q + 5 * (j : Int)) := by simp [mkC]

end Go.Proofs.YtcofhmikdkkigaaGreatDoor
namespace Go.Proofs.YtcofhmikdkkigaaGreatDoor
open Go.RowKit

def totL : List Lv → Nat
  | [] => 0
  | lv :: r => 2 + lv.rn + totL r
theorem totL_app : ∀ (a b : List Lv), totL (a ++ b) = totL a + totL b
  | [], b => by simp [totL]
  | x :: a, b => by simp only [List.cons_append, totL, totL_app a b]; omega
theorem totL_succ (xs : List Lv) (k : Nat) (hk : k < xs.length) : totL (xs.take (k + 1)) = totL (xs.take k) + 2 + xs[k].rn := by
  rw [List.take_succ_eq_append_getElem hk, totL_app]
  simp [totL]
  omega
theorem totL_take : ∀ (xs : List Lv) (k : Nat), totL (xs.take k) ≤ totL xs
  | _, 0 => by simp [totL]
  | [], k + 1 => by simp
  | x :: xs, k + 1 => by
    have := totL_take xs k
    simp only [List.take_succ_cons, totL]
    omega
def mkLs (q : Int) : List Lv → List Lv
  | [] => []
  | lv :: r => ⟨q, q + 1, lv.ro, lv.rn, lv.rc⟩ :: mkLs (q + 2 + (lv.rn : Int)) r
theorem mkLs_len : ∀ (xs : List Lv) (q : Int), (mkLs q xs).length = xs.length
  | [], _ => rfl
  | x :: xs, q => by simp [mkLs, mkLs_len xs]
theorem mkLs_app : ∀ (a b : List Lv) (q : Int), mkLs q (a ++ b) = mkLs q a ++ mkLs (q + (totL a : Int)) b
  | [], b, q => by simp [mkLs, totL]
  | x :: a, b, q => by
    simp only [List.cons_append, mkLs, mkLs_app a b, totL]
    congr 3
    omega
theorem mkLs_succ (xs : List Lv) (q : Int) (k : Nat) (hk : k < xs.length) : mkLs q (xs.take (k + 1)) = mkLs q (xs.take k) ++ [⟨q + (totL (xs.take k) : Int), q + (totL (xs.take k) : Int) + 1, xs[k].ro, xs[k].rn, xs[k].rc⟩] := by
  rw [List.take_succ_eq_append_getElem hk, mkLs_app]
  rfl
theorem mkLs_at (xs : List Lv) (q : Int) (k : Nat) (hk : k < xs.length) (hk2 : k < (mkLs q xs).length) : (mkLs q xs)[k] = ⟨q + (totL (xs.take k) : Int), q + (totL (xs.take k) : Int) + 1, xs[k].ro, xs[k].rn, xs[k].rc⟩ := by
  have e : mkLs q xs = mkLs q (xs.take (k + 1)) ++ mkLs (q + (totL (xs.take (k + 1)) : Int)) (xs.drop (k + 1)) := by rw [← mkLs_app, List.take_append_drop]
  have h1 : (mkLs q (xs.take k)).length = k := by rw [mkLs_len]; simp; omega
  simp only [e, mkLs_succ xs q k hk]
  rw [List.getElem_append_left (by simp [h1]), List.getElem_append_right (by omega)]
  simp [h1]

structure LO (w : World) (g base : Nat) (lvs : List Lv) : Prop where
  row : RowAt w g 86
  own : ∀ j (hj : j < lvs.length), ∃ gj, lvs[j].ro = some ⟨gj, 0, none⟩ ∧ gj ≠ g ∧ ∃ xs : List Int, xs.length = lvs[j].rn ∧ OwnI w base (.slice (some ⟨gj, 0, none⟩) lvs[j].rn lvs[j].rc) xs
  ap : ∀ i j (hi : i < lvs.length) (hj : j < lvs.length), i ≠ j → lvs[i].ro ≠ lvs[j].ro
def BlkL (g : Nat) (lvs : List Lv) (x : Nat) : Prop := x = g ∨ ∃ j, ∃ h : j < lvs.length, lvs[j].ro = some ⟨x, 0, none⟩
structure MX (w wr : World) (g base : Nat) (q : Int) (lvs : List Lv) (k : Nat) : Prop where
  row : RowAt wr g 86
  rd : ReadsG layL wr (some ⟨g, 0, none⟩) (mkLs q (lvs.take k) ++ lvs.drop k)
  new : ∀ j (hj : j < lvs.length), j < k → ∃ gj, lvs[j].ro = some ⟨gj, 0, none⟩ ∧ gj ≠ g ∧ OwnI wr base (.slice (some ⟨gj, 0, none⟩) lvs[j].rn lvs[j].rc) (ups (q + (totL (lvs.take j) : Int) + 2) lvs[j].rn)
  old : ∀ j (hj : j < lvs.length), k ≤ j → ∃ gj, lvs[j].ro = some ⟨gj, 0, none⟩ ∧ gj ≠ g ∧ ∃ xs : List Int, xs.length = lvs[j].rn ∧ OwnI wr base (.slice (some ⟨gj, 0, none⟩) lvs[j].rn lvs[j].rc) xs
  fr : FrS (BlkL g lvs) w wr

theorem own_other {w w' : World} {base g gj n c : Nat} {xs : List Int} (h : OwnI w base (.slice (some ⟨gj, 0, none⟩) n c) xs) (k : w.grownBy w' (some g)) (hne : gj ≠ g) : OwnI w' base (.slice (some ⟨gj, 0, none⟩) n c) xs :=
  h.keep k (.inr (by simp [Value.ownBlock]; exact hne))
theorem MX.step {w wr w3 : World} {g base k gk : Nat} {q : Int} {lvs : List Lv} (h : MX w wr g base q lvs k) (hap : ∀ i j (hi : i < lvs.length) (hj : j < lvs.length), i ≠ j → lvs[i].ro ≠ lvs[j].ro) (hk : k < lvs.length) (hgk : lvs[k].ro = some ⟨gk, 0, none⟩) (hne : gk ≠ g)
    (k3 : ((wr.setCell ⟨g, k * 3, none⟩ (.int .i64 (q + (totL (lvs.take k) : Int)))).setCell ⟨g, k * 3 + 1, none⟩ (.int .i64 (q + (totL (lvs.take k) : Int) + 1))).grownBy w3 (some gk))
    (o3 : OwnI w3 base (.slice (some ⟨gk, 0, none⟩) lvs[k].rn lvs[k].rc) (ups (q + (totL (lvs.take k) : Int) + 2) lvs[k].rn)) : MX w w3 g base q lvs (k + 1) := by
  have hml : (mkLs q (lvs.take k)).length = k := by rw [mkLs_len]; simp; omega
  have hkl : k < (mkLs q (lvs.take k) ++ lvs.drop k).length := by rw [List.length_append, hml]; simp; omega
  have hel : (mkLs q (lvs.take k) ++ lvs.drop k)[k] = lvs[k] := by
    rw [List.getElem_append_right (by omega)]
    simp [hml]
  have k2 := grown_trans (grown_set wr g (k * 3) (.int .i64 (q + (totL (lvs.take k) : Int)))) (grown_set (wr.setCell ⟨g, k * 3, none⟩ (.int .i64 (q + (totL (lvs.take k) : Int)))) g (k * 3 + 1) (.int .i64 (q + (totL (lvs.take k) : Int) + 1)))
  have hg : g < wr.heap.size := by
    obtain ⟨cur, hc⟩ := h.row
    exact (Array.getElem?_eq_some_iff.1 hc).1
  refine ⟨?_, ?_, fun j hj hjk => ?_, fun j hj hjk => ?_, ?_⟩
  · obtain ⟨cur, hc⟩ := (h.row.set (k * 3) (.int .i64 (q + (totL (lvs.take k) : Int)))).set (k * 3 + 1) (.int .i64 (q + (totL (lvs.take k) : Int) + 1))
    exact ⟨cur, (k3.block g (by have := k2.size; omega) (by simpa using fun e => hne e.symm)).trans hc⟩
  · have h1 := reads_cell (L := layL) (q := 0) (e := { lvs[k] with o := q + (totL (lvs.take k) : Int) }) (v := .int .i64 (q + (totL (lvs.take k) : Int))) h.rd hkl (by decide) (by rw [hel]; rfl)
    have h2 := reads_cell (L := layL) (q := 1) (e := { lvs[k] with o := q + (totL (lvs.take k) : Int), wr := q + (totL (lvs.take k) : Int) + 1 }) (v := .int .i64 (q + (totL (lvs.take k) : Int) + 1)) h1 (by simpa using hkl) (by decide) (by rw [List.getElem_set_self]; rfl)
    rw [List.set_set, List.drop_eq_getElem_cons hk, set_mid _ _ _ _ _ hml, ← mkLs_succ lvs q k hk] at h2
    exact ReadsG.keep h2 k3 (.inr (by simpa [blk] using fun e => hne e.symm))
  · by_cases e : j = k
    · subst e
      exact ⟨gk, hgk, hne, o3⟩
    · obtain ⟨gj, a1, a2, a3⟩ := h.new j hj (by omega)
      refine ⟨gj, a1, a2, own_other (own_other a3 k2 a2) k3 (fun e2 => ?_)⟩
      have := hap j k hj hk e
      rw [a1, hgk, e2] at this
      exact this rfl
  · obtain ⟨gj, a1, a2, xs, a3, a4⟩ := h.old j hj (by omega)
    refine ⟨gj, a1, a2, xs, a3, own_other (own_other a4 k2 a2) k3 (fun e2 => ?_)⟩
    have := hap j k hj hk (by omega)
    rw [a1, hgk, e2] at this
    exact this rfl
  · exact h.fr.trans ((grown_toS k2 (.inl rfl)).trans (grown_toS k3 (.inr ⟨k, hk, hgk⟩)))

end Go.Proofs.YtcofhmikdkkigaaGreatDoor
namespace Go.Proofs.YtcofhmikdkkigaaGreatDoor
open Go.RowKit

set_option maxHeartbeats 600000 in
theorem l4LockOf_own {B : Nat → Prop} (s : Sv) (m : Scn) (o : Int) (w : World) (ho : I64 o) (lvs : List Lv) (hr : ReadsG layL w s.lo lvs) (hn : s.ll = lvs.length) (hL : LksR B w lvs m.ls) (hl : m.ls.length ≤ 1048576) :
    Calls Tryz.prog 112 #[.agg #[.int .i64 s.g, .slice s.lo s.ll s.lc, .slice s.co s.cl s.cc, .slice s.no s.nl s.nc, .slice s.oo s.ol s.oc], .int .i64 o] w fun e w' => ∃ lv : Lv, e = .returned (.agg #[.int .i64 lv.o, .int .i64 lv.wr, .slice lv.ro lv.rn lv.rc]) ∧ LkR B w' lv (lockOf m.ls o) ∧ Fr w w' := by
  obtain ⟨g, lo, ll, lc, co, cl, cc, no, nl, nc, oo, ol, oc⟩ := s
  simp only at hr hn ⊢
  subst hn
  obtain ⟨ls, hls⟩ : ∃ ls, ls = m.ls := ⟨_, rfl⟩
  rw [← hls] at hL hl ⊢
  clear hls
  have c1 := (Fr.alloc (w.alloc (.cells #[.int .i64 g, .slice lo lvs.length lc, .slice co cl cc, .slice no nl nc, .slice oo ol oc] 29)) (.cells #[.int .i64 0, .int .i64 0, .slice none 0 0] 86)).cell (ScB.new w ⟨g, lo, lvs.length, lc, co, cl, cc, no, nl, nc, oo, ol, oc⟩).c1
  simp only at c1
  have f2 := (Fr.alloc w (.cells #[.int .i64 g, .slice lo lvs.length lc, .slice co cl cc, .slice no nl nc, .slice oo ol oc] 29)).trans (Fr.alloc _ (.cells #[.int .i64 0, .int .i64 0, .slice none 0 0] 86))
  have hr := hr.fr f2
  go_enter Tryz.func112, Tryz.ntmps112
  go_wp2
  go_loop [5] (fun i => ∃ k : Nat, k ≤ lvs.length ∧ i = .int .i64 k ∧ Hid (∀ j (hj : j < ls.length), j < k → (ls[j].o == o) = false)) (fun i => lvs.length - (intOf i).toNat)
  case atStart => exact ⟨0, Nat.zero_le _, rfl, fun j hj hk => by omega⟩
  case round =>
    obtain ⟨k, hk, rfl, HA⟩ := hrel
    by_cases hlt : k < lvs.length
    · obtain ⟨b, off, rfl, d0, d1, d2⟩ := lv_at hr k hlt
      have hk2 : k < ls.length := by have := hL.len; omega
      have hLk := hL.at_ k hlt hk2
      have ee := hLk.o
      obtain ⟨lv, hlv⟩ : ∃ lv, lv = lvs[k] := ⟨_, rfl⟩
      rw [← hlv] at d0 d1 d2 hLk ee
      clear hlv
      cases hb : (lv.o == o)
      · have HS : Hid (∀ j (hj : j < ls.length), j < k + 1 → (ls[j].o == o) = false) := upto_step (fun c : Lk => c.o == o) ls k HA.out hk2 (by rw [← ee]; exact hb)
        clear ee hLk
        go_wp2
        go_round
        case rel => exact ⟨k + 1, by omega, by go_num, HS⟩
        case measure => simp [intOf]; omega
      · have HE : Hid (lockOf ls o = ls[k]) := lock_yes ls o k hk2 HA.out (by rw [← ee]; exact hb)
        clear ee
        go_wp2
        refine bodyPost_ret (v := .agg #[.int .i64 lv.o, .int .i64 lv.wr, .slice lv.ro lv.rn lv.rc]) (by simp [results, Tryz.results112, go_sem]) rfl ⟨lv, rfl, ?_, (Fr.alloc _ _).trans (Fr.alloc _ _)⟩
        rw [HE.out]
        exact hLk.fr ((Fr.alloc _ _).trans (Fr.alloc _ _))
    · have HN : Hid (lockOf ls o = ⟨o, -1, []⟩) := lock_no ls o (fun j hj => HA.out j hj (by have := hL.len; omega))
      go_wp2
      refine bodyPost_ret (v := .agg #[.int .i64 o, .int .i64 (-1), .slice none 0 0]) (by simp [results, Tryz.results112, go_sem]) rfl ⟨⟨o, -1, none, 0, 0⟩, rfl, ?_, (Fr.alloc _ _).trans (Fr.alloc _ _)⟩
      rw [HN.out]
      exact ⟨rfl, rfl, rfl, Reads.nil _ _, fun b hb => by simp [blk] at hb, fun _ => rfl, by simp, ho, i64_m1⟩

theorem l4LockOf_rd {B : Nat → Prop} (s : Sv) (m : Scn) (o : Int) (w : World) (ho : I64 o) (h : ScR B w s m) (w0 : World) (k : Fr w0 w) :
    Calls Tryz.prog 112 #[.agg #[.int .i64 s.g, .slice s.lo s.ll s.lc, .slice s.co s.cl s.cc, .slice s.no s.nl s.nc, .slice s.oo s.ol s.oc], .int .i64 o] w fun e w' => ∃ lv : Lv, e = .returned (.agg #[.int .i64 lv.o, .int .i64 lv.wr, .slice lv.ro lv.rn lv.rc]) ∧ LkR B w' lv (lockOf m.ls o) ∧ Fr w w' ∧ (OwR w0 s → InB (RdB w0 s.oo) lv.ro) := by
  obtain ⟨lvs, hr, hN, hL⟩ := h.lks
  obtain ⟨B2, hB2⟩ : ∃ B2 : Nat → Prop, B2 = fun b => B b ∧ (OwR w0 s → RdB w0 s.oo b) := ⟨_, rfl⟩
  have hI : ∀ j (h1 : j < lvs.length) (h2 : j < m.ls.length), InB B2 lvs[j].ro := fun j h1 h2 b hb => by
    rw [hB2]
    refine ⟨(hL.at_ j h1 h2).bl b hb, fun q => ?_⟩
    obtain ⟨xs, g1, g2⟩ := q.l
    have e := lks_one hr (g1.reads.1.fr k) (by rw [← hN, g1.reads.2])
    subst e
    exact g2 _ (List.getElem_mem h1) b hb
  have hL : LksR B2 w lvs m.ls := ⟨hL.len, fun j h1 h2 => { hL.at_ j h1 h2 with bl := hI j h1 h2 }⟩
  refine (l4LockOf_own s m o w ho lvs hr hN hL h.sl).mono ?_
  rintro e u ⟨lv, rfl, h1, h2⟩
  refine ⟨lv, rfl, { h1 with bl := fun b hb => ?_ }, h2, fun q b hb => ?_⟩
  · have := h1.bl b hb
    rw [hB2] at this
    exact this.1
  · have := h1.bl b hb
    rw [hB2] at this
    exact this.2 q
end Go.Proofs.YtcofhmikdkkigaaGreatDoor
