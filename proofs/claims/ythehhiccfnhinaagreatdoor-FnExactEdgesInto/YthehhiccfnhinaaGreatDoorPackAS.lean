/-
  Marks in lists of locks: written, and held.
-/
import Derived.Test.YthehhiccfnhinaaGreatDoorPackAR
import Derived.Test.YthehhiccfnhinaaGreatDoorPackAL
import Derived.Test.YthehhiccfnhinaaGreatDoorPackAM
import Derived.Deep.RegionHeld3
import Derived.Test.YthehhiccfnhinaaGreatDoorPackAQ
import Derived.Test.YthehhiccfnhinaaGreatDoorPackAD
import Derived.Test.YthehhiccfnhinaaGreatDoorPackAE
import Derived.Test.YthehhiccfnhinaaGreatDoorPackAG
import Derived.Test.YthehhiccfnhinaaGreatDoorPackAH
namespace Go.Proofs.YthehhiccfnhinaaGreatDoor
open Go.RowKit

/-- How many marks these locks take. -/
def totL : List Lv → Nat
  | [] => 0
  | lv :: r => 2 + lv.rn + totL r
theorem totL_app : ∀ (a b : List Lv), totL (a ++ b) = totL a + totL b
  | [], b => by simp [totL]
  | x :: a, b => by simp only [List.cons_append, totL, totL_app a b]; omega
theorem totL_succ (xs : List Lv) (k : Nat) (hk : k < xs.length) : totL (xs.take (k + 1)) = totL (xs.take k) + 2 + xs[k].rn := by
  rw [List.take_succ_eq_append_getElem hk, totL_app]
  simp [totL]
  omega
theorem totL_take : ∀ (xs : List Lv) (k : Nat), totL (xs.take k) ≤ totL xs
  | _, 0 => by simp [totL]
  | [], k + 1 => by simp
  | x :: xs, k + 1 => by
    have := totL_take xs k
    simp only [List.take_succ_cons, totL]
    omega
/-- The marked locks' values. -/
def mkLs (q : Int) : List Lv → List Lv
  | [] => []
  | lv :: r => ⟨q, q + 1, lv.ro, lv.rn, lv.rc⟩ :: mkLs (q + 2 + (lv.rn : Int)) r
theorem mkLs_len : ∀ (xs : List Lv) (q : Int), (mkLs q xs).length = xs.length
  | [], _ => rfl
  | x :: xs, q => by simp [mkLs, mkLs_len xs]
theorem mkLs_app : ∀ (a b : List Lv) (q : Int), mkLs q (a ++ b) = mkLs q a ++ mkLs (q + (totL a : Int)) b
  | [], b, q => by simp [mkLs, totL]
  | x :: a, b, q => by
    simp only [List.cons_append, mkLs, mkLs_app a b, totL]
    congr 3
    omega
theorem mkLs_succ (xs : List Lv) (q : Int) (k : Nat) (hk : k < xs.length) : mkLs q (xs.take (k + 1)) = mkLs q (xs.take k) ++ [⟨q + (totL (xs.take k) : Int), q + (totL (xs.take k) : Int) + 1, xs[k].ro, xs[k].rn, xs[k].rc⟩] := by
  rw [List.take_succ_eq_append_getElem hk, mkLs_app]
  rfl
theorem mkLs_at (xs : List Lv) (q : Int) (k : Nat) (hk : k < xs.length) (hk2 : k < (mkLs q xs).length) : (mkLs q xs)[k] = ⟨q + (totL (xs.take k) : Int), q + (totL (xs.take k) : Int) + 1, xs[k].ro, xs[k].rn, xs[k].rc⟩ := by
  have e : mkLs q xs = mkLs q (xs.take (k + 1)) ++ mkLs (q + (totL (xs.take (k + 1)) : Int)) (xs.drop (k + 1)) := by rw [← mkLs_app, List.take_append_drop]
  have h1 : (mkLs q (xs.take k)).length = k := by rw [mkLs_len]; simp; omega
  simp only [e, mkLs_succ xs q k hk]
  rw [List.getElem_append_left (by simp [h1]), List.getElem_append_right (by omega)]
  simp [h1]

/-- Locks whose list and whose Readers are rows of their own. -/
structure LO (w : World) (g base : Nat) (lvs : List Lv) : Prop where
  row : RowAt w g 82
  own : ∀ j (hj : j < lvs.length), ∃ gj, lvs[j].ro = some ⟨gj, 0, none⟩ ∧ gj ≠ g ∧ ∃ xs : List Int, xs.length = lvs[j].rn ∧ OwnI w base (.slice (some ⟨gj, 0, none⟩) lvs[j].rn lvs[j].rc) xs
  ap : ∀ i j (hi : i < lvs.length) (hj : j < lvs.length), i ≠ j → lvs[i].ro ≠ lvs[j].ro
/-- The blocks of these locks. -/
def BlkL (g : Nat) (lvs : List Lv) (x : Nat) : Prop := x = g ∨ ∃ j, ∃ h : j < lvs.length, lvs[j].ro = some ⟨x, 0, none⟩
/-- In the midst of marking: the first k are marked. -/
structure MX (w wr : World) (g base : Nat) (q : Int) (lvs : List Lv) (k : Nat) : Prop where
  row : RowAt wr g 82
  rd : ReadsG layL wr (some ⟨g, 0, none⟩) (mkLs q (lvs.take k) ++ lvs.drop k)
  new : ∀ j (hj : j < lvs.length), j < k → ∃ gj, lvs[j].ro = some ⟨gj, 0, none⟩ ∧ gj ≠ g ∧ OwnI wr base (.slice (some ⟨gj, 0, none⟩) lvs[j].rn lvs[j].rc) (ups (q + (totL (lvs.take j) : Int) + 2) lvs[j].rn)
  old : ∀ j (hj : j < lvs.length), k ≤ j → ∃ gj, lvs[j].ro = some ⟨gj, 0, none⟩ ∧ gj ≠ g ∧ ∃ xs : List Int, xs.length = lvs[j].rn ∧ OwnI wr base (.slice (some ⟨gj, 0, none⟩) lvs[j].rn lvs[j].rc) xs
  fr : FrS (BlkL g lvs) w wr

theorem own_other {w w' : World} {base g gj n c : Nat} {xs : List Int} (h : OwnI w base (.slice (some ⟨gj, 0, none⟩) n c) xs) (k : w.grownBy w' (some g)) (hne : gj ≠ g) : OwnI w' base (.slice (some ⟨gj, 0, none⟩) n c) xs :=
  h.keep k (.inr (by simp [Value.ownBlock]; exact hne))
theorem MX.step {w wr w3 : World} {g base k gk : Nat} {q : Int} {lvs : List Lv} (h : MX w wr g base q lvs k) (hap : ∀ i j (hi : i < lvs.length) (hj : j < lvs.length), i ≠ j → lvs[i].ro ≠ lvs[j].ro) (hk : k < lvs.length) (hgk : lvs[k].ro = some ⟨gk, 0, none⟩) (hne : gk ≠ g)
    (k3 : ((wr.setCell ⟨g, k * 3, none⟩ (.int .i64 (q + (totL (lvs.take k) : Int)))).setCell ⟨g, k * 3 + 1, none⟩ (.int .i64 (q + (totL (lvs.take k) : Int) + 1))).grownBy w3 (some gk))
    (o3 : OwnI w3 base (.slice (some ⟨gk, 0, none⟩) lvs[k].rn lvs[k].rc) (ups (q + (totL (lvs.take k) : Int) + 2) lvs[k].rn)) : MX w w3 g base q lvs (k + 1) := by
  have hml : (mkLs q (lvs.take k)).length = k := by rw [mkLs_len]; simp; omega
  have hkl : k < (mkLs q (lvs.take k) ++ lvs.drop k).length := by rw [List.length_append, hml]; simp; omega
  have hel : (mkLs q (lvs.take k) ++ lvs.drop k)[k] = lvs[k] := by
    rw [List.getElem_append_right (by omega)]
    simp [hml]
  have k2 := grown_trans (grown_set wr g (k * 3) (.int .i64 (q + (totL (lvs.take k) : Int)))) (grown_set (wr.setCell ⟨g, k * 3, none⟩ (.int .i64 (q + (totL (lvs.take k) : Int)))) g (k * 3 + 1) (.int .i64 (q + (totL (lvs.take k) : Int) + 1)))
  have hg : g < wr.heap.size := by
    obtain ⟨cur, hc⟩ := h.row
    exact (Array.getElem?_eq_some_iff.1 hc).1
  refine ⟨?_, ?_, fun j hj hjk => ?_, fun j hj hjk => ?_, ?_⟩
  · obtain ⟨cur, hc⟩ := (h.row.set (k * 3) (.int .i64 (q + (totL (lvs.take k) : Int)))).set (k * 3 + 1) (.int .i64 (q + (totL (lvs.take k) : Int) + 1))
    exact ⟨cur, (k3.block g (by have := k2.size; omega) (by simpa using fun e => hne e.symm)).trans hc⟩
  · have h1 := reads_cell (L := layL) (q := 0) (e := { lvs[k] with o := q + (totL (lvs.take k) : Int) }) (v := .int .i64 (q + (totL (lvs.take k) : Int))) h.rd hkl (by decide) (by rw [hel]; rfl)
    have h2 := reads_cell (L := layL) (q := 1) (e := { lvs[k] with o := q + (totL (lvs.take k) : Int), wr := q + (totL (lvs.take k) : Int) + 1 }) (v := .int .i64 (q + (totL (lvs.take k) : Int) + 1)) h1 (by simpa using hkl) (by decide) (by rw [List.getElem_set_self]; rfl)
    rw [List.set_set, List.drop_eq_getElem_cons hk, set_mid _ _ _ _ _ hml, ← mkLs_succ lvs q k hk] at h2
    exact ReadsG.keep h2 k3 (.inr (by simpa [blk] using fun e => hne e.symm))
  · by_cases e : j = k
    · subst e
      exact ⟨gk, hgk, hne, o3⟩
    · obtain ⟨gj, a1, a2, a3⟩ := h.new j hj (by omega)
      refine ⟨gj, a1, a2, own_other (own_other a3 k2 a2) k3 (fun e2 => ?_)⟩
      have := hap j k hj hk e
      rw [a1, hgk, e2] at this
      exact this rfl
  · obtain ⟨gj, a1, a2, xs, a3, a4⟩ := h.old j hj (by omega)
    refine ⟨gj, a1, a2, xs, a3, own_other (own_other a4 k2 a2) k3 (fun e2 => ?_)⟩
    have := hap j k hj hk (by omega)
    rw [a1, hgk, e2] at this
    exact this rfl
  · exact h.fr.trans ((grown_toS k2 (.inl rfl)).trans (grown_toS k3 (.inr ⟨k, hk, hgk⟩)))

set_option maxRecDepth 20000 in
set_option maxHeartbeats 2000000 in
theorem markL_any (g n cap base : Nat) (q : Int) (lvs : List Lv) (w : World) (hn : lvs.length = n) (hl : n ≤ 1048576) (ht : totL lvs ≤ 4194304) (q0 : 0 ≤ q) (q1 : q ≤ 4000000000) (h : ReadsG layL w (some ⟨g, 0, none⟩) lvs) (hO : LO w g base lvs) :
    Calls Tryz.prog 93 #[.slice (some ⟨g, 0, none⟩) n cap, .int .i64 q] w fun e w' => e = .returned (.int .i64 (q + (totL lvs : Int))) ∧ MX w w' g base q lvs lvs.length := by
  subst hn
  have M0 : MX w w g base q lvs 0 := ⟨hO.row, by simpa [mkLs] using h, fun j _ hj => by omega, fun j hj _ => hO.own j hj, FrS.refl _ _⟩
  have hap := hO.ap
  clear hO h
  go_enter Tryz.func93, Tryz.ntmps93
  go_wp2_with fail
  go_loopw [1, 5] (fun c i wr => ∃ k : Nat, k ≤ lvs.length ∧ i = .int .i64 k ∧ c = .int .i64 (q + (totL (lvs.take k) : Int)) ∧ MX w wr g base q lvs k) (fun _ i _ => lvs.length - (intOf i).toNat)
  case atStart => exact ⟨0, Nat.zero_le _, rfl, by simp [totL], M0⟩
  case round =>
    clear M0
    obtain ⟨k, hk, rfl, rfl, hM⟩ := hrel
    by_cases hlt : k < lvs.length
    · have hml : (mkLs q (lvs.take k)).length = k := by rw [mkLs_len]; simp; omega
      have hkl : k < (mkLs q (lvs.take k) ++ lvs.drop k).length := by rw [List.length_append, hml]; simp; omega
      have hel : (mkLs q (lvs.take k) ++ lvs.drop k)[k] = lvs[k] := by
        rw [List.getElem_append_right (by omega)]
        simp [hml]
      obtain ⟨b, off, e0, d0, d1, d2⟩ := lv_at hM.rd k hkl
      simp only [Option.some.injEq, Addr.mk.injEq, and_true] at e0
      obtain ⟨rfl, rfl⟩ := e0
      rw [hel] at d0 d1 d2
      simp only [Nat.zero_add] at d0 d1 d2
      obtain ⟨gk, a1, a2, xs, a3, a4⟩ := hM.old k hlt (Nat.le_refl _)
      rw [a1] at d2
      have z0 := hM.row.free (k * 3)
      have z1 := hM.row.free (k * 3 + 1)
      have htk := totL_take lvs (k + 1)
      have hts := totL_succ lvs k hlt
      have hi : (k : Int) < lvs.length := by omega
      have k2 := grown_trans (grown_set wr g (k * 3) (.int .i64 (q + (totL (lvs.take k) : Int)))) (grown_set (wr.setCell ⟨g, k * 3, none⟩ (.int .i64 (q + (totL (lvs.take k) : Int)))) g (k * 3 + 1) (.int .i64 (q + (totL (lvs.take k) : Int) + 1)))
      have o2 := own_other a4 k2 a2
      have e2 : q + (totL (lvs.take k) : Int) + 1 + 1 = q + (totL (lvs.take k) : Int) + 2 := by omega
      have cM := mark_any gk lvs[k].rn lvs[k].rc base (q + (totL (lvs.take k) : Int) + 1 + 1) xs _ a3 (by omega) (by omega) o2
      have HST : Hid (∀ w3, ((wr.setCell ⟨g, k * 3, none⟩ (.int .i64 (q + (totL (lvs.take k) : Int)))).setCell ⟨g, k * 3 + 1, none⟩ (.int .i64 (q + (totL (lvs.take k) : Int) + 1))).grownBy w3 (some gk) → OwnI w3 base (.slice (some ⟨gk, 0, none⟩) lvs[k].rn lvs[k].rc) (ups (q + (totL (lvs.take k) : Int) + 1 + 1) lvs[k].rn) → MX w w3 g base q lvs (k + 1)) := fun w3 k3 o3 => hM.step hap hlt a1 a2 k3 (by rw [← e2]; exact o3)
      have HT : Hid (q + (totL (lvs.take k) : Int) + 1 + 1 + (lvs[k].rn : Int) = q + (totL (lvs.take (k + 1)) : Int)) := by
        show q + (totL (lvs.take k) : Int) + 1 + 1 + (lvs[k].rn : Int) = q + (totL (lvs.take (k + 1)) : Int)
        rw [hts]; omega
      have hKb : 0 ≤ q + (totL (lvs.take k) : Int) ∧ q + (totL (lvs.take k) : Int) ≤ 4100000000 := by omega
      clear hM hel hkl hml k2 o2 e2 hts htk a4
      obtain ⟨K, hK⟩ : ∃ K, K = q + (totL (lvs.take k) : Int) := ⟨_, rfl⟩
      rw [← hK] at hKb ⊢
      simp only [← hK] at cM HST HT
      clear hK
      obtain ⟨rn, hrn⟩ : ∃ r, r = lvs[k].rn := ⟨_, rfl⟩
      obtain ⟨rc, hrc⟩ : ∃ r, r = lvs[k].rc := ⟨_, rfl⟩
      rw [← hrn, ← hrc] at d2
      rw [← hrn, ← hrc] at cM
      simp only [← hrn, ← hrc] at HST HT
      clear hrn hrc
      go_wp2_with fail
      refine cM.mono ?_
      rintro x w3 ⟨rfl, o3, k3⟩
      clear cM
      have HM3 : Hid (MX w w3 g base q lvs (k + 1)) := HST.out w3 k3 o3
      clear HST o3 k3
      go_wp2_with fail
      go_roundw
      case rel => exact ⟨k + 1, by omega, by go_num, by rw [HT.out], HM3.out⟩
      case measure => simp [intOf]; omega
    · have e : k = lvs.length := by omega
      subst e
      rw [List.take_length]
      go_wp2_with fail
      go_ret
      exact ⟨rfl, hM⟩

set_option maxHeartbeats 2000000 in
theorem heldL_any (ao : Option Addr) (n cap : Nat) (q : Int) (lvs : List Lv) (w : World) (hn : lvs.length = n) (hl : n ≤ 1048576) (ht : totL lvs ≤ 4194304) (q0 : 0 ≤ q) (q1 : q ≤ 4000000000) (h : ReadsG layL w ao (mkLs q lvs)) (hR : ∀ j (hj : j < lvs.length), Reads w lvs[j].ro (ups (q + (totL (lvs.take j) : Int) + 2) lvs[j].rn)) :
    Calls Tryz.prog 96 #[.slice ao n cap, .int .i64 q] w fun e w' => e = .returned (.int .i64 (q + (totL lvs : Int))) ∧ w' = w := by
  subst hn
  go_enter Tryz.func96, Tryz.ntmps96
  go_wp2_with fail
  go_loop [1, 5] (fun c i => ∃ k : Nat, k ≤ lvs.length ∧ i = .int .i64 k ∧ c = .int .i64 (q + (totL (lvs.take k) : Int))) (fun _ i => lvs.length - (intOf i).toNat)
  case atStart => exact ⟨0, Nat.zero_le _, rfl, by simp [totL]⟩
  case round =>
    obtain ⟨k, hk, rfl, rfl⟩ := hrel
    by_cases hlt : k < lvs.length
    · have hkl : k < (mkLs q lvs).length := by rw [mkLs_len]; exact hlt
      obtain ⟨b, off, rfl, d0, d1, d2⟩ := lv_at h k hkl
      rw [mkLs_at lvs q k hlt] at d0 d1 d2
      simp only at d0 d1 d2
      have hRk := hR k hlt
      have htk := totL_take lvs (k + 1)
      have hts := totL_succ lvs k hlt
      have hi : (k : Int) < lvs.length := by omega
      have e2 : q + (totL (lvs.take k) : Int) + 2 = q + (totL (lvs.take k) : Int) + 1 + 1 := by omega
      rw [e2] at hRk
      have cH := held_any lvs[k].ro lvs[k].rn lvs[k].rc (q + (totL (lvs.take k) : Int) + 1 + 1) w (by omega) (by omega) hRk
      have HT : Hid (q + (totL (lvs.take k) : Int) + 1 + 1 + (lvs[k].rn : Int) = q + (totL (lvs.take (k + 1)) : Int)) := by
        show q + (totL (lvs.take k) : Int) + 1 + 1 + (lvs[k].rn : Int) = q + (totL (lvs.take (k + 1)) : Int)
        rw [hts]; omega
      have hKb : 0 ≤ q + (totL (lvs.take k) : Int) ∧ q + (totL (lvs.take k) : Int) ≤ 4100000000 := by omega
      have hrb : (lvs[k].rn : Int) ≤ 4194304 := by omega
      clear hts htk e2 hRk
      obtain ⟨K, hK⟩ : ∃ K, K = q + (totL (lvs.take k) : Int) := ⟨_, rfl⟩
      rw [← hK] at hKb d0 d1 ⊢
      rw [← hK] at cH
      simp only [← hK] at HT
      clear hK
      obtain ⟨ro, hro⟩ : ∃ r, r = lvs[k].ro := ⟨_, rfl⟩
      obtain ⟨rn, hrn⟩ : ∃ r, r = lvs[k].rn := ⟨_, rfl⟩
      obtain ⟨rc, hrc⟩ : ∃ r, r = lvs[k].rc := ⟨_, rfl⟩
      rw [← hro, ← hrn, ← hrc] at d2
      rw [← hro, ← hrn, ← hrc] at cH
      rw [← hrn] at hrb
      simp only [← hrn] at HT
      clear hro hrn hrc
      have hb0 : (K != K) = false := by simp
      have hb1 : (K + 1 != K + 1) = false := by simp
      have hb2 : ¬ (K + 1 + 1 + (rn : Int) < 0) := by omega
      go_wp2_with fail
      refine cH.mono ?_
      rintro x w3 ⟨rfl, rfl⟩
      clear cH
      go_wp2_with fail
      go_round
      case rel => exact ⟨k + 1, by omega, by go_num, by rw [HT.out]⟩
      case measure => simp [intOf]; omega
    · have e : k = lvs.length := by omega
      subst e
      rw [List.take_length]
      go_wp2_with fail
      go_ret
      exact ⟨rfl, rfl⟩
end Go.Proofs.YthehhiccfnhinaaGreatDoor
/-
  The board's scene.
-/
namespace Go.Proofs.YthehhiccfnhinaaGreatDoor
open Go.RowKit

theorem own_row {w : World} {base g n c sz : Nat} {T : TypeId} {xs : List Value} (h : w.ownsRow base T sz (.slice (some ⟨g, 0, none⟩) n c) n xs) : RowAt w g T := by
  rcases h.2 with ⟨e, _⟩ | ⟨g', cap', cur, e, -, hc, -⟩
  · cases e
  · cases e; exact ⟨cur, hc⟩
theorem RowAt.keep {w w' : World} {g : Nat} {T : TypeId} {row : Option Nat} (h : RowAt w g T) (k : w.grownBy w' row) (hne : some g ≠ row) : RowAt w' g T := by
  obtain ⟨cur, hc⟩ := h
  exact ⟨cur, (k.block g (Array.getElem?_eq_some_iff.1 hc).1 hne).trans hc⟩
/-- A scene whose lists are rows of their own, no two in one block. -/
structure ScO (base : Nat) (w : World) (s : Sv) (m : Scn) (gl gc gn go : Nat) (lvs : List Lv) : Prop where
  e1 : s.lo = some ⟨gl, 0, none⟩
  e2 : s.co = some ⟨gc, 0, none⟩
  e3 : s.no = some ⟨gn, 0, none⟩
  e4 : s.oo = some ⟨go, 0, none⟩
  ll : s.ll = lvs.length
  rl : ReadsG layL w (some ⟨gl, 0, none⟩) lvs
  ol : LO w gl base lvs
  tl : totL lvs ≤ 1000
  rc : RowAt w gc 85
  rn : RowAt w gn 88
  oo : OwnI w base (.slice (some ⟨go, 0, none⟩) s.ol s.oc) m.os
  ne : gc ≠ gn ∧ gc ≠ go ∧ gn ≠ go
  ap : ∀ x, BlkL gl lvs x → x ≠ gc ∧ x ≠ gn ∧ x ≠ go
  lo : ∀ x, BlkL gl lvs x ∨ x = gc ∨ x = gn ∨ x = go → base ≤ x ∧ x < w.heap.size
theorem LO.keep {w w' : World} {g base : Nat} {lvs : List Lv} {row : Option Nat} (h : LO w g base lvs) (k : w.grownBy w' row) (hr : ∀ x, row = some x → ¬ BlkL g lvs x) : LO w' g base lvs := by
  refine ⟨h.row.keep k (fun e => hr g e.symm (.inl rfl)), fun j hj => ?_, h.ap⟩
  obtain ⟨gj, a1, a2, xs, a3, a4⟩ := h.own j hj
  refine ⟨gj, a1, a2, xs, a3, a4.keep k (.inr ?_)⟩
  simp only [Value.ownBlock]
  exact fun e => hr gj e.symm (.inr ⟨j, hj, a1⟩)
theorem ScO.fr {base : Nat} {w w' : World} {s : Sv} {m : Scn} {gl gc gn go : Nat} {lvs : List Lv} (h : ScO base w s m gl gc gn go lvs) (k : Fr w w') : ScO base w' s m gl gc gn go lvs :=
  { h with rl := h.rl.fr k, ol := h.ol.keep k (by simp), rc := h.rc.keep k (by simp), rn := h.rn.keep k (by simp), oo := h.oo.fr k, lo := fun x hx => ⟨(h.lo x hx).1, Nat.lt_of_lt_of_le (h.lo x hx).2 k.size⟩ }
theorem ScO.keep {base : Nat} {w w' : World} {s : Sv} {m : Scn} {gl gc gn go : Nat} {lvs : List Lv} {row : Nat} (h : ScO base w s m gl gc gn go lvs) (k : w.grownBy w' (some row)) (hr : row < base ∨ w.heap.size ≤ row) : ScO base w' s m gl gc gn go lvs := by
  have hx : ∀ x, BlkL gl lvs x ∨ x = gc ∨ x = gn ∨ x = go → row ≠ x := fun x q e => by
    have := h.lo x q
    omega
  have n1 := hx gl (.inl (.inl rfl))
  have n2 := hx gc (.inr (.inl rfl))
  have n3 := hx gn (.inr (.inr (.inl rfl)))
  have n4 := hx go (.inr (.inr (.inr rfl)))
  exact { h with rl := h.rl.keep k (.inr (by simpa [blk] using fun e => n1 e.symm)), ol := h.ol.keep k (fun x e q => by cases e; exact hx _ (.inl q) rfl), rc := h.rc.keep k (by simpa using fun e => n2 e.symm), rn := h.rn.keep k (by simpa using fun e => n3 e.symm), oo := h.oo.keep k (.inr (by simpa [Value.ownBlock] using fun e => n4 e.symm)), lo := fun x hx => ⟨(h.lo x hx).1, Nat.lt_of_lt_of_le (h.lo x hx).2 k.size⟩ }
theorem ScO.lower {base base' : Nat} {w : World} {s : Sv} {m : Scn} {gl gc gn go : Nat} {lvs : List Lv} (h : ScO base w s m gl gc gn go lvs) (hb : base' ≤ base) : ScO base' w s m gl gc gn go lvs :=
  { h with ol := ⟨h.ol.row, fun j hj => by
      obtain ⟨gj, a1, a2, xs, a3, a4⟩ := h.ol.own j hj
      exact ⟨gj, a1, a2, xs, a3, a4.lower hb⟩, h.ol.ap⟩, oo := h.oo.lower hb, lo := fun x hx => ⟨Nat.le_trans hb (h.lo x hx).1, (h.lo x hx).2⟩ }
theorem totL_le : ∀ (xs : List Lv), (∀ x ∈ xs, x.rn ≤ 16) → totL xs ≤ 18 * xs.length
  | [], _ => by simp [totL]
  | x :: xs, h => by
    have h1 := h x (List.mem_cons_self ..)
    have h2 := totL_le xs (fun y hy => h y (List.mem_cons_of_mem _ hy))
    simp only [totL, List.length_cons]
    omega

set_option maxRecDepth 20000 in
set_option maxHeartbeats 4000000 in
theorem scene_any {lo : Nat × Nat} {b b1 b2 b3 b4 n : Nat} {m : Scn} (w : World) (h : BoardW lo w b b1 b2 b3 b4 n m) (hm : scB m = true) (hn : n ≤ 4000000) :
    Calls Tryz.prog 52 #[.pointer (some ⟨b, 0, none⟩)] w fun e w' => ∃ s : Sv, e = .returned (.agg #[.int .i64 s.g, .slice s.lo s.ll s.lc, .slice s.co s.cl s.cc, .slice s.no s.nl s.nc, .slice s.oo s.ol s.oc]) ∧ ScR (fun x => w.heap.size ≤ x ∧ x < w'.heap.size) w' s m ∧ Fr w w' ∧ ∃ gl gc gn go ys, ScO w.heap.size w' s m gl gc gn go ys := by
  obtain ⟨fl, lvs, M1, hLk, hv1, hk1⟩ := h.lks hm
  obtain ⟨r1, r2, r3, r4⟩ := sc_rise hm
  have HSC := (scB_iff m).1 hm
  have f0 := Fr.alloc w (.cells #[.int .i64 0, .slice none 0 0, .slice none 0 0, .slice none 0 0, .slice none 0 0] 29)
  have k0 := ScK.new w ⟨0, none, 0, 0, none, 0, 0, none, 0, 0, none, 0, 0⟩
  simp only at k0
  have hlen : ∀ (xs : List Int), xs.Pairwise (· < ·) → (∀ x ∈ xs, 0 ≤ x ∧ x ≤ 15) → xs.length ≤ 16 := fun xs q1 q2 => by
    have := rise_len xs 0 15 q1 q2 (by omega)
    omega
  have o1 : ∀ x ∈ m.ls.map Lk.o, 0 ≤ x ∧ x ≤ 15 := fun x hx => by
    obtain ⟨l, hl, rfl⟩ := List.mem_map.1 hx
    exact ((lkB_iff _ _).1 (HSC.2.1.1 l hl)).2.1
  have o2 : ∀ x ∈ m.cs.map Ch.o, 0 ≤ x ∧ x ≤ 15 := fun x hx => by
    obtain ⟨l, hl, rfl⟩ := List.mem_map.1 hx
    exact (chB_in (HSC.2.2.1.1 l hl)).1
  have o3 : ∀ x ∈ m.gs.map Ct.o, 0 ≤ x ∧ x ≤ 15 := fun x hx => by
    obtain ⟨l, hl, rfl⟩ := List.mem_map.1 hx
    exact (ctB_in (HSC.2.2.2.1.1 l hl)).1
  have o4 := HSC.2.2.2.2.1
  have n1 : lvs.length ≤ 16 := by have := hlen _ r1 o1; rw [hLk.len]; simpa using this
  have n2 : m.cs.length ≤ 16 := by simpa using hlen _ r2 o2
  have n3 : m.gs.length ≤ 16 := by simpa using hlen _ r3 o3
  have n4 : m.os.length ≤ 16 := hlen _ r4 o4
  have cL := fun u (f : Fr w u) => ordL_any b1 n fl lvs u (M1.fr f) (by rw [lk_os _ _ hLk]; exact r1) hk1 hv1 (fun o ho => by rw [lk_os _ _ hLk] at ho; exact i64_small (by have := o1 o ho; omega)) hn (by omega)
  have cC := fun u (f : Fr w u) => ordC_any b2 n _ m.cs u (h.m2.fr f) r2 (fun o => by rw [mem_find]; simp) (fun j hj => by rw [find_of_mem Ch.o m.cs r2 _ (List.getElem_mem hj)]; rfl) (fun o ho => i64_small (by have := o2 o ho; omega)) hn (by omega)
  have cN := fun u (f : Fr w u) => ordN_any b3 n _ m.gs u (h.m3.fr f) r3 (fun o => by rw [mem_find]; simp) (fun j hj => by rw [find_of_mem Ct.o m.gs r3 _ (List.getElem_mem hj)]; rfl) (fun o ho => i64_small (by have := o3 o ho; omega)) hn (by omega)
  have cI := fun u (f : Fr w u) => ordI_any b4 n _ m.os u (h.m4.fr f) r4 (fun o => by simp only [find_self]; by_cases q : o ∈ m.os <;> simp [q]) (fun j hj => by simp only [find_self]; rw [if_pos (List.getElem_mem hj)]; rfl) (fun o ho => i64_small (by have := o4 o ho; omega)) hn (by omega)
  have HC : Hid (∀ u, Fr w u → u.cell? ⟨b, 0, none⟩ = some (.int .i64 m.g) ∧ u.cell? ⟨b, 1, none⟩ = some (.map (some b1)) ∧ u.cell? ⟨b, 2, none⟩ = some (.map (some b2)) ∧ u.cell? ⟨b, 3, none⟩ = some (.map (some b3)) ∧ u.cell? ⟨b, 4, none⟩ = some (.map (some b4))) := fun u f => ⟨f.cell h.toM.c0, f.cell h.toM.c1, f.cell h.toM.c2, f.cell h.toM.c3, f.cell h.toM.c4⟩
  have HG : Hid (I64 m.g) := i64_small (by have := HSC.1; omega)
  have HIC : Hid (∀ c ∈ m.cs, I64 c.o ∧ I64 c.cap ∧ I64 c.sent ∧ I64 c.got) := fun c hc => by
    have := chB_in (HSC.2.2.1.1 c hc)
    exact ⟨i64_small (by omega), i64_small (by omega), i64_small (by omega), i64_small (by omega)⟩
  have HIN : Hid (∀ c ∈ m.gs, I64 c.o ∧ I64 c.n) := fun c hc => by
    have := ctB_in (HSC.2.2.2.1.1 c hc)
    exact ⟨i64_small (by omega), i64_small (by omega)⟩
  have HRD : Hid (∀ l ∈ m.ls, l.rd.length ≤ 16) := fun l hl => by
    obtain ⟨⟨q1, q2⟩, -⟩ := (lkB_iff _ _).1 (HSC.2.1.1 l hl)
    have := rise_len l.rd 0 15 q2 (fun x hx => by have := q1 x hx; have := HSC.1; omega) (by omega)
    omega
  have hblt := h.blt
  clear h hm M1 hv1 hk1 HSC o1 o2 o3 o4 r1 r2 r3 r4 hlen
  obtain ⟨c0, c1, c2, c3, c4⟩ := HC.out _ f0
  go_enter Tryz.func52, Tryz.ntmps52
  go_wp2_with fail
  obtain ⟨W, hW⟩ : ∃ W, W = w.alloc (.cells #[.int .i64 0, .slice none 0 0, .slice none 0 0, .slice none 0 0, .slice none 0 0] 29) := ⟨_, rfl⟩
  rw [← hW] at f0 k0 c0 c1 c2 c3 c4 ⊢
  obtain ⟨rb, hrb⟩ : ∃ rb, rb = w.heap.size := ⟨_, rfl⟩
  rw [← hrb] at k0 ⊢
  have HRB : Hid (rb = w.heap.size) := hrb
  have hrbb : rb ≠ b := by omega
  clear hW hrb
  refine (cL W f0).mono ?_
  rintro x w1 ⟨v1, rfl, O1, f1⟩
  obtain ⟨g1, cap1, rfl, O1, hl1⟩ := O1
  clear c0 c1 c2 c3 c4 cL
  have F1 := f0.trans f1
  have k1 := k0.fr f1
  have hX : LX w w1 g1 0 lvs lvs m.ls := by
    have hb := O1.lt g1 rfl
    rcases O1.2 with ⟨e, _⟩ | ⟨g', cap', cur, e, -, hc, -⟩
    · cases e
    · cases e
      refine ⟨F1, by have := f0.size; omega, ⟨cur, hc⟩, own_readsG O1 (by omega), hLk.len, fun j _ _ q => by omega, fun j _ _ _ => rfl, fun j _ _ q => by omega, fun i j _ _ q => by omega⟩
  have hgr : g1 ≠ rb := by
    have := O1.lt g1 rfl
    have := k0.lt
    omega
  clear f0 k0 f1 O1
  go_wp2_with fail
  go_loopw [13] (fun i wr => ∃ (k : Nat) (ys : List Lv), k ≤ lvs.length ∧ i = .int .i64 k ∧ LX w wr g1 k lvs ys m.ls ∧ ScK wr rb ⟨0, none, 0, 0, none, 0, 0, none, 0, 0, none, 0, 0⟩) (fun i _ => lvs.length - (intOf i).toNat)
  case atStart => exact ⟨0, lvs, Nat.zero_le _, rfl, hX, k1⟩
  case round =>
    clear hX k1
    obtain ⟨k, ys, hk, rfl, hX, k1⟩ := hrel
    by_cases hlt : k < lvs.length
    · have hy : k < ys.length := by rw [hX.len, ← hLk.len]; exact hlt
      have hls : k < m.ls.length := by rw [← hLk.len]; exact hlt
      have he := hX.old k hy hlt (Nat.le_refl _)
      obtain ⟨bq, off, e0, d0, d1, d2⟩ := lv_at hX.rd k hy
      simp only [Option.some.injEq, Addr.mk.injEq, and_true] at e0
      obtain ⟨rfl, rfl⟩ := e0
      rw [he] at d0 d1 d2
      simp only [Nat.zero_add] at d0 d1 d2
      have hLR := (hLk.at_ k hlt hls).fr hX.fr
      have HPUT : Hid (∀ u g2 c2, Fr wr u → OwnI u w.heap.size (.slice (some ⟨g2, 0, none⟩) m.ls[k].rd.length c2) m.ls[k].rd → (wr.heap.size ≤ g2 ∧ g2 < u.heap.size) → LX w (u.setCell ⟨g1, k * 3 + 2, none⟩ (.slice (some ⟨g2, 0, none⟩) m.ls[k].rd.length c2)) g1 (k + 1) lvs (ys.set k { ys[k] with ro := some ⟨g2, 0, none⟩, rn := m.ls[k].rd.length, rc := c2 }) m.ls) := fun u g2 c2 fu R q => by
        have hg := hX.glt
        have hs := hX.ge
        exact (hX.grow fu).put hy hls hlt (((hLk.at_ k hlt hls).fr (hX.fr.trans fu)).mono (fun _ _ => trivial)) R (fun j h1 hj => by
          obtain ⟨gj, a1, a2, a3, a4⟩ := hX.ow j h1 (by rw [← hX.len]; exact h1) hj
          rw [a1]
          intro e
          simp only [Option.some.injEq, Addr.mk.injEq, and_true] at e
          omega) ⟨by omega, by omega, by omega⟩
      have HFZ : Hid (∀ u, Fr wr u → u.frozen? ⟨g1, k * 3 + 2, none⟩ = false ∧ ∃ x, u.cell? ⟨g1, k * 3 + 2, none⟩ = some x) := fun u fu => by
        obtain ⟨cur, hc⟩ := (hX.grow fu).row
        exact ⟨frozen_of_row u g1 _ _ _ hc, _, fu.cell d2⟩
      have HSZ : Hid (w.heap.size ≤ wr.heap.size) := hX.fr.size
      have hrn := hLR.rn
      have hrd := hLR.rd
      have hrc := hLR.rc
      have hrs := hLR.sz
      obtain ⟨rd, hrdd⟩ : ∃ rd, rd = m.ls[k].rd := ⟨_, rfl⟩
      rw [← hrdd] at hrn hrd hrs HPUT
      clear hrdd hLR he
      obtain ⟨e, hee⟩ : ∃ e, e = lvs[k] := ⟨_, rfl⟩
      rw [← hee] at d0 d1 d2 hrn hrd hrc
      clear hee
      obtain ⟨zo, zw, zr, zn, zk⟩ := e
      simp only at d0 d1 d2 hrn hrd hrc
      subst hrn
      have fA := Fr.alloc wr (.cells #[.int .i64 zo, .int .i64 zw, .slice zr rd.length zk] 82)
      have fB := Fr.alloc (wr.alloc (.cells #[.int .i64 zo, .int .i64 zw, .slice zr rd.length zk] 82)) (.cells #[] 2)
      have hO := own_empty (wr.alloc (.cells #[.int .i64 zo, .int .i64 zw, .slice zr rd.length zk] 82)) wr.heap.size (by simp)
      have hR := hrd.fr (fA.trans fB)
      have fAB := fA.trans fB
      simp only [World.size_alloc] at hO
      clear fA fB hrd
      go_wp2_with (at_builtin; refine appI _ rfl _ _ rfl wr.heap.size _ _ rd rfl hO zr rd.length zk rfl rfl hrc hR (by simp; omega) (by simp; omega) ?_; intro v4 w4 hv4 hg4; have fu : Fr wr w4 := fAB.then hg4 hO.blk; have hb4 := hv4.blk; obtain ⟨g2, c2, rfl, ho4⟩ := hv4; have hb4 := hb4 g2 rfl; obtain ⟨z1, z2, z3⟩ := HFZ.out w4 fu)
      go_roundw
      case rel => exact ⟨k + 1, _, by omega, by go_num, HPUT.out w4 g2 c2 fu (by simpa using ho4.lower (Nat.le_trans HSZ.out (Nat.le_refl _))) ⟨hb4, (ho4.1.lt g2 rfl).2⟩, (k1.fr fu).keep (grown_set _ _ _ _) (by simpa using fun q => hgr q)⟩
      case measure => simp [intOf]; omega
    · have hke : k = lvs.length := by omega
      have HLK : Hid (LksR (fun x => w.heap.size < x ∧ x < wr.heap.size ∧ x ≠ g1) wr ys m.ls ∧ ReadsG layL wr (some ⟨g1, 0, none⟩) ys ∧ lvs.length = ys.length) := ⟨⟨hX.len, fun j h1 h2 => hX.new j h1 h2 (by rw [hke, hLk.len]; exact h2)⟩, hX.rd, by rw [hX.len, hLk.len]⟩
      have HOW : Hid (∀ j (h1 : j < ys.length), ∃ gj, ys[j].ro = some ⟨gj, 0, none⟩ ∧ gj ≠ g1 ∧ gj < wr.heap.size ∧ ∃ h2 : j < m.ls.length, OwnI wr w.heap.size (.slice (some ⟨gj, 0, none⟩) ys[j].rn ys[j].rc) m.ls[j].rd) := fun j h1 => by
        have h2 : j < m.ls.length := by rw [← hX.len]; exact h1
        obtain ⟨gj, a1, a2, a3, a4⟩ := hX.ow j h1 h2 (by rw [hke, hLk.len]; exact h2)
        exact ⟨gj, a1, a2, a3, h2, a4⟩
      have HAP : Hid (∀ i j (h1 : i < ys.length) (h2 : j < ys.length), i ≠ j → ys[i].ro ≠ ys[j].ro) := fun i j h1 h2 hij => hX.ap i j h1 h2 (by rw [hke, hLk.len, ← hX.len]; exact h1) (by rw [hke, hLk.len, ← hX.len]; exact h2) hij
      have HRW : Hid (RowAt wr g1 82) := hX.row
      have hgl := hX.glt
      have hge := hX.ge
      have FW := hX.fr
      clear hX hLk
      subst hke
      have HK : Hid (∀ u, Fr wr u → ScK u rb ⟨0, none, 0, 0, none, 0, 0, none, 0, 0, none, 0, 0⟩) := fun u f => k1.fr f
      have hrl := k1.lt
      obtain ⟨mg, hmg⟩ : ∃ g, g = m.g := ⟨_, rfl⟩
      rw [← hmg] at HC
      have HMG : Hid (mg = m.g) := hmg
      clear hmg k1
      obtain ⟨c0, c1, c2, c3, c4⟩ := HC.out wr FW
      have fD := FW.trans (Fr.drew wr)
      go_wp2_with fail
      go_region_held3 (fun u => u.cell? ⟨b, 0, none⟩ = some (.int .i64 mg) ∧ u.cell? ⟨b, 1, none⟩ = some (.map (some b1)) ∧ u.cell? ⟨b, 2, none⟩ = some (.map (some b2)) ∧ u.cell? ⟨b, 3, none⟩ = some (.map (some b3)) ∧ u.cell? ⟨b, 4, none⟩ = some (.map (some b4))) (go_keep)
        (first | (go_at_call 116; refine (cC _ fD).mono ?_; rintro x u1 ⟨v1, rfl, O1, f1⟩; have q1 := (Fr.drew wr).trans f1; obtain ⟨p0, p1, p2, p3, p4⟩ := HC.out _ (FW.trans q1); obtain ⟨ga, ca, rfl, O1, hla⟩ := O1) | (go_at_call 117; refine (cN _ (FW.trans q1)).mono ?_; rintro x u2 ⟨v2, rfl, O2, f2⟩; have q2 := q1.trans f2; obtain ⟨s0, s1, s2, s3, s4⟩ := HC.out _ (FW.trans q2); obtain ⟨gb, cb, rfl, O2, hlb⟩ := O2) | (go_at_call 118; refine (cI _ (FW.trans q2)).mono ?_; rintro x u3 ⟨v3, rfl, O3, f3⟩; have q3 := q2.trans f3; obtain ⟨t0, t1, t2, t3, t4⟩ := HC.out _ (FW.trans q3); obtain ⟨gc, cc, rfl, O3⟩ := O3; obtain ⟨j0, j1, j2, j3, j4⟩ := (HK.out u3 q3).at; simp only at j0 j1 j2 j3 j4; have jf := fun i => (HK.out u3 q3).free i))
      clear c0 c1 c2 c3 c4 p0 p1 p2 p3 p4 s0 s1 s2 s3 s4 t0 t1 t2 t3 t4
      go_wp2_with fail
      have ta := O1.lt ga rfl
      have tb := O2.lt gb rfl
      have tc := O3.1.lt gc rfl
      have k5 := put5 u3 rb (.int .i64 mg) (.slice (some ⟨g1, 0, none⟩) lvs.length cap1) (.slice (some ⟨ga, 0, none⟩) m.cs.length ca) (.slice (some ⟨gb, 0, none⟩) m.gs.length cb) (.slice (some ⟨gc, 0, none⟩) m.os.length cc)
      have z1 := f1.size
      have z2 := f2.size
      have z3 := f3.size
      have z5 := k5.size
      have z6 := FW.size
      have zd : wr.drew.heap.size = wr.heap.size := rfl
      have FK : Fr w u3 := FW.trans q3
      have HRB := HRB.out
      obtain ⟨l1, l2, l3⟩ := HLK.out
      have R1 := own_readsG O1 hla
      have R2 := own_readsG O2 hlb
      have R3 := O3.reads
      refine bodyPost_ret (v := .agg #[.int .i64 mg, .slice (some ⟨g1, 0, none⟩) lvs.length cap1, .slice (some ⟨ga, 0, none⟩) m.cs.length ca, .slice (some ⟨gb, 0, none⟩) m.gs.length cb, .slice (some ⟨gc, 0, none⟩) m.os.length cc]) (by simp [results, Tryz.results52, go_sem, j0, j1, j2, j3, j4]) rfl ⟨⟨mg, some ⟨g1, 0, none⟩, lvs.length, cap1, some ⟨ga, 0, none⟩, m.cs.length, ca, some ⟨gb, 0, none⟩, m.gs.length, cb, some ⟨gc, 0, none⟩, m.os.length, cc⟩, rfl, ?_, FK.then k5 (fun j hj => by simp only [Option.some.injEq] at hj; omega), g1, ga, gb, gc, ys, ?_⟩
      have ll := l1.len
      rotate_left
      · have hbx : ∀ x, BlkL g1 ys x → x < wr.heap.size ∧ w.heap.size ≤ x ∧ x ≠ rb := by
          rintro x (rfl | ⟨j, hj, e⟩)
          · exact ⟨hgl, by omega, hgr⟩
          · obtain ⟨gj, a1, a2, a3, h2, a4⟩ := HOW.out j hj
            rw [a1] at e
            simp only [Option.some.injEq, Addr.mk.injEq, and_true] at e
            subst e
            have b1 := (l1.at_ j hj h2).bl gj (by rw [a1]; rfl)
            exact ⟨a3, by omega, by omega⟩
        refine { e1 := rfl, e2 := rfl, e3 := rfl, e4 := rfl, ll := l3, rl := (l2.fr q3).keep k5 (.inr (by simp [blk]; omega)), ol := ?_, tl := ?_, rc := ((own_row O1).keep (f2.trans f3) (by simp)).keep k5 (by simp; omega), rn := ((own_row O2).keep f3 (by simp)).keep k5 (by simp; omega), oo := (O3.lower (by omega)).keep k5 (.inr (by simp [Value.ownBlock]; omega)), ne := ⟨by omega, by omega, by omega⟩, ap := fun x hx => ?_, lo := fun x hx => ?_ }
        · exact LO.keep (LO.keep ⟨HRW.out, fun j hj => by
            obtain ⟨gj, a1, a2, a3, h2, a4⟩ := HOW.out j hj
            exact ⟨gj, a1, a2, m.ls[j].rd, ((l1.at_ j hj h2).rn).symm, a4⟩, HAP.out⟩ q3 (by simp)) k5 (fun x hx q => by
              simp only [Option.some.injEq] at hx
              exact (hbx x q).2.2 hx.symm)
        · have := totL_le ys (fun y hy => by
            obtain ⟨j, hj, rfl⟩ := List.mem_iff_getElem.1 hy
            have h2 : j < m.ls.length := l1.len ▸ hj
            rw [(l1.at_ j hj h2).rn]
            exact HRD.out _ (List.getElem_mem h2))
          omega
        · have := hbx x hx
          exact ⟨by omega, by omega, by omega⟩
        · rcases hx with hx | hx | hx | hx
          · have := hbx x hx
            exact ⟨by omega, by omega⟩
          · omega
          · omega
          · omega
      exact { g := HMG.out, ig := HG.out, lks := ⟨ys, (l2.fr q3).keep k5 (.inr (by simp [blk]; omega)), l3, ⟨ll, fun j h1 h2 => (((l1.at_ j h1 h2).fr q3).keep k5 (fun x hx => by cases hx; exact fun q => by omega)).mono (fun x q => ⟨by omega, by omega⟩)⟩⟩,
              chs := (R1.fr (f2.trans f3)).keep k5 (.inr (by simp [blk]; omega)), cl := rfl, cts := (R2.fr f3).keep k5 (.inr (by simp [blk]; omega)), nl := rfl, ons := R3.keep k5 (.inr (by simp [blk]; omega)), ol := rfl,
              bl := fun x hx => by simp only [blk, Option.map_some, Option.some.injEq] at hx; omega, bc := fun x hx => by simp only [blk, Option.map_some, Option.some.injEq] at hx; omega, bn := fun x hx => by simp only [blk, Option.map_some, Option.some.injEq] at hx; omega, bo := fun x hx => by simp only [blk, Option.map_some, Option.some.injEq] at hx; omega,
              zo := fun q => by simp at q, sl := by omega, sc := by omega, sn := by omega, so := by omega, ic := HIC.out, inn := HIN.out }
end Go.Proofs.YthehhiccfnhinaaGreatDoor
/-
  The program's SceneAfter; legal parts of legal parts.
-/
namespace Go.Proofs.YthehhiccfnhinaaGreatDoor
open Go.RowKit

theorem leg_ok : ∀ (es : List Ev) (m : Scn), scB m = true → scB (legS m es).1 = true
  | [], m, h => h
  | e :: es, m, h => by
    by_cases q : codeIn m e = 0
    · rw [leg_go q]; exact leg_ok es _ (do_ok q)
    · rw [leg_no q]; exact h
theorem leg_len : ∀ (es : List Ev) (m : Scn), (legS m es).2.1 ≤ es.length
  | [], m => by simp [legS]
  | e :: es, m => by
    by_cases q : codeIn m e = 0
    · rw [leg_go q]
      have := leg_len es (doS m e)
      simp only [List.length_cons]
      omega
    · rw [leg_no q]; simp
/-- The code is 0 just where all is legal. -/
theorem leg_code : ∀ (es : List Ev) (m : Scn), (legS m es).2.2 = 0 ↔ (legS m es).2.1 = es.length
  | [], m => by simp [legS]
  | e :: es, m => by
    by_cases q : codeIn m e = 0
    · rw [leg_go q]
      have := leg_code es (doS m e)
      simp only [List.length_cons]
      omega
    · rw [leg_no q]
      simp [q]
/-- A first part of the legal part is legal, whole; the next event can be done. -/
theorem leg_part : ∀ (es : List Ev) (m : Scn) (k : Nat), k ≤ (legS m es).2.1 → (legS m (es.take k)).2.1 = k ∧ (legS m (es.take k)).2.2 = 0 ∧ ∀ (h : k < es.length), k < (legS m es).2.1 → codeIn (legS m (es.take k)).1 es[k] = 0
  | es, m, 0, _ => by
    simp only [List.take_zero]
    refine ⟨rfl, rfl, fun h h2 => ?_⟩
    cases es with
    | nil => simp at h
    | cons e es =>
      by_cases q : codeIn m e = 0
      · exact q
      · rw [leg_no q] at h2; simp at h2
  | [], m, k + 1, h => by simp [legS] at h
  | e :: es, m, k + 1, h => by
    by_cases q : codeIn m e = 0
    · rw [leg_go q] at h ⊢
      simp only at h
      obtain ⟨h1, h2, h3⟩ := leg_part es (doS m e) k (by omega)
      rw [List.take_succ_cons, leg_go q]
      refine ⟨by simp only; omega, h2, fun hk hk2 => ?_⟩
      simp only [List.getElem_cons_succ]
      exact h3 (by simpa using hk) (by simp only at hk2; omega)
    · rw [leg_no q] at h; simp at h

/-- The scene behind the legal part, and whether it is all of it. -/
def aftS (es : List Ev) : Scn := if 300 < es.length then ⟨0, [], [], [], []⟩ else (legS scn0 es).1
def aftB (es : List Ev) : Bool := if 300 < es.length then false else decide ((legS scn0 es).2.2 = 0)
theorem scR_zero (B : Nat → Prop) (w : World) : ScR B w ⟨0, none, 0, 0, none, 0, 0, none, 0, 0, none, 0, 0⟩ ⟨0, [], [], [], []⟩ where
  g := rfl
  ig := ⟨by decide, by decide⟩
  lks := ⟨[], ReadsG.nil _ _ _, rfl, LksR.nil _ _⟩
  chs := ReadsG.nil _ _ _
  cl := rfl
  cts := ReadsG.nil _ _ _
  nl := rfl
  ons := Reads.nil _ _
  ol := rfl
  bl := inB_none _
  bc := inB_none _
  bn := inB_none _
  bo := inB_none _
  zo _ := rfl
  sl := by simp
  sc := by simp
  sn := by simp
  so := by simp
  ic c hc := by simp at hc
  inn c hc := by simp at hc

set_option maxHeartbeats 1000000 in
theorem specAfter_any (ao : Option Addr) (n c : Nat) (es : List Ev) (w : World) (hn : es.length = n) (h : ReadsE w ao es) :
    Calls Tryz.prog 69 #[.slice ao n c] w fun x w' => ∃ (s : Sv) (B : Nat → Prop), x = .returned (.tuple #[.agg #[.int .i64 s.g, .slice s.lo s.ll s.lc, .slice s.co s.cl s.cc, .slice s.no s.nl s.nc, .slice s.oo s.ol s.oc], .bool (aftB es)]) ∧ ScR B w' s (aftS es) ∧ Fr w w' ∧ ∀ b, B b → w.heap.size ≤ b := by
  have f0 := Fr.alloc w (.cells #[.int .i64 0, .slice none 0 0, .slice none 0 0, .slice none 0 0, .slice none 0 0] 29)
  have k0 := ScK.new w ⟨0, none, 0, 0, none, 0, 0, none, 0, 0, none, 0, 0⟩
  simp only at k0
  subst hn
  by_cases hb : es.length ≤ 300
  · have cP := l5Scene_any ao es.length c es _ rfl (h.fr f0)
    have e1 : aftS es = (legS scn0 es).1 := if_neg (by omega)
    have e3 : aftB es = decide ((legS scn0 es).2.2 = 0) := if_neg (by omega)
    have hlc := leg_code es scn0
    have e2 : (es.length : Int) ≤ 300 := by omega
    rw [e1, e3]
    clear e1 e3 h
    obtain ⟨L, hL⟩ : ∃ L : Nat, L = (legS scn0 es).2.1 := ⟨_, rfl⟩
    obtain ⟨q, hq⟩ : ∃ z : Int, z = (legS scn0 es).2.2 := ⟨_, rfl⟩
    obtain ⟨M, hM⟩ : ∃ z, z = (legS scn0 es).1 := ⟨_, rfl⟩
    simp only [← hL, ← hq, ← hM] at cP hlc
    rw [← hq, ← hM]
    clear hL hq hM hb
    have hbb : ((L : Int) == (es.length : Int)) = decide (q = 0) := by
      by_cases q0 : q = 0
      · have := hlc.1 q0
        simp [q0, this]
      · have : ¬ ((L : Int) = (es.length : Int)) := fun e => q0 (hlc.2 (by omega))
        simp [q0, this]
    clear hlc
    go_enter Tryz.func69, Tryz.ntmps69
    go_wp2_with fail
    refine (cP).mono ?_
    rintro e u1 ⟨⟨sg, lo, ll, lc, co, cl, cc, no, nl, nc, oo, ol, oc⟩, B, rfl, S1, hB, f1⟩
    have fA := Fr.alloc u1 (.cells #[.int .i64 sg, .slice lo ll lc, .slice co cl cc, .slice no nl nc, .slice oo ol oc] 29)
    have kr := k0.fr (f1.trans fA)
    have F1 := f0.trans (f1.trans fA)
    have S2 := S1.fr fA
    have hsz := f0.size
    have hkl := k0.lt
    obtain ⟨j0, j1, j2, j3, j4⟩ := kr.at
    simp only at j0 j1 j2 j3 j4
    have jf := fun i => kr.free i
    have HS2 : Hid _ := S2
    have HB : Hid (∀ b, B b → w.heap.size < b) := fun b q => by have := (hB b q).1; omega
    clear S1 S2 hB cP k0 kr fA f1 f0
    go_wp2_with fail
    have k5 := put5 (u1.alloc (.cells #[.int .i64 sg, .slice lo ll lc, .slice co cl cc, .slice no nl nc, .slice oo ol oc] 29)) w.heap.size (.int .i64 sg) (.slice lo ll lc) (.slice co cl cc) (.slice no nl nc) (.slice oo ol oc)
    refine bodyPost_ret (v := .tuple #[.agg #[.int .i64 sg, .slice lo ll lc, .slice co cl cc, .slice no nl nc, .slice oo ol oc], .bool (decide (q = 0))]) (by simp [results, Tryz.results69, go_sem, j0, j1, j2, j3, j4]) rfl ⟨⟨sg, lo, ll, lc, co, cl, cc, no, nl, nc, oo, ol, oc⟩, B, rfl, ?_, ?_, fun b q => Nat.le_of_lt (HB.out b q)⟩
    · exact HS2.out.keep k5 (fun x hx => by cases hx; exact fun q => by have := HB.out _ q; omega)
    · exact F1.then k5 (fun j hj => by simp only [Option.some.injEq] at hj; omega)
  · have e1 : aftS es = ⟨0, [], [], [], []⟩ := if_pos (by omega)
    have e3 : aftB es = false := if_pos (by omega)
    have e2 : 300 < (es.length : Int) := by omega
    rw [e1, e3]
    clear e1 e3 h hb
    go_enter Tryz.func69, Tryz.ntmps69
    go_wp2_with fail
    refine bodyPost_ret (v := .tuple #[.agg #[.int .i64 0, .slice none 0 0, .slice none 0 0, .slice none 0 0, .slice none 0 0], .bool false]) (by simp [results, Tryz.results69, go_sem]) rfl ⟨⟨0, none, 0, 0, none, 0, 0, none, 0, 0, none, 0, 0⟩, (fun _ => False), rfl, scR_zero _ _, f0, fun b q => q.elim⟩
end Go.Proofs.YthehhiccfnhinaaGreatDoor
/-
  What an event touches: the model; the slot by the channel's counts, and by the events ahead.
-/
namespace Go.Proofs.YthehhiccfnhinaaGreatDoor
open Go.RowKit

/-- The channels of a scene hold what the events ahead made of them. -/
def ChAt (es : List Ev) (m : Scn) : Prop := ∀ o, (∀ c, m.cs.find? (fun c => c.o == o) = some c → c.cap = capK o es ∧ c.sent = cntK 7 o es ∧ c.got = cntK 8 o es) ∧ (m.cs.find? (fun c => c.o == o) = none → cntK 7 o es = 0 ∧ cntK 8 o es = 0)
theorem ChAt.nil : ChAt [] scn0 := fun o => ⟨fun c h => by simp [scn0] at h, fun _ => ⟨rfl, rfl⟩⟩
theorem chanOf_some {m : Scn} {o : Int} {c : Ch} (h : m.cs.find? (fun c => c.o == o) = some c) : chanOf m.cs o = c ∧ chanZ m o = c ∧ c.o = o := by
  refine ⟨by simp [chanOf, h], by simp [chanZ, h], ?_⟩
  have := List.find?_some h
  simpa using this
/-- A channel's event that can be done. -/
theorem code_chan {m : Scn} {e : Ev} (hc : codeIn m e = 0) (h6 : 6 ≤ e.k) (h11 : e.k ≤ 11) :
    (e.k = 6 → m.cs.find? (fun c => c.o == e.o) = none) ∧ (e.k ≠ 6 → ∃ c, m.cs.find? (fun c => c.o == e.o) = some c ∧ (e.k = 7 ∨ e.k = 8 → c.cap ≠ 0)) := by
  have hr : restCode m e = 0 := by
    unfold codeIn at hc
    split at hc
    · simp at hc
    · split at hc
      · simp at hc
      · exact hc
  unfold restCode at hr
  rw [if_neg (by omega), if_pos ⟨h6, h11⟩] at hr
  unfold chanCode at hr
  split at hr
  · simp at hr
  · rename_i h1
    split at hr
    · simp at hr
    · rename_i h2
      refine ⟨fun h => ?_, fun h => ?_⟩
      · simp only [h, decide_true, isChan] at h1
        cases hf : m.cs.find? (fun c => c.o == e.o) with
        | none => rfl
        | some c => simp [hf] at h1
      · simp only [h, decide_false, isChan] at h1
        cases hf : m.cs.find? (fun c => c.o == e.o) with
        | none => simp [hf] at h1
        | some c =>
          refine ⟨c, rfl, fun h78 h0 => h2 (.inl ⟨h78, ?_⟩)⟩
          rw [(chanOf_some hf).1]
          exact h0
theorem ChAt.step {es : List Ev} {m : Scn} {e : Ev} (h : ChAt es m) (hc : codeIn m e = 0) : ChAt (es ++ [e]) (doS m e) := by
  have hm := (code_parts hc).2.1
  have hr := (sc_rise hm).2.1
  intro o
  rw [capK_one, cntK_one, cntK_one]
  have h0 := h o
  by_cases hk : 6 ≤ e.k ∧ e.k ≤ 8 ∨ e.k = 10
  · have ed : (doS m e).cs = setL Ch.o (chanTo m e) false m.cs := by
      unfold doS
      rw [if_neg (by omega), if_neg (by omega), if_pos hk]
      rfl
    have ho : (chanTo m e).o = e.o := by
      have q : (chanOf m.cs e.o).o = e.o := by
        unfold chanOf
        cases hf : m.cs.find? (fun c => c.o == e.o) with
        | none => rfl
        | some c => exact (chanOf_some hf).2.2
      unfold chanTo
      split
      · exact q
      · split
        · exact q
        · split
          · exact q
          · exact q
    have hq := code_chan hc (by omega) (by omega)
    rw [ed, find_setL Ch.o (chanTo m e) false m.cs hr o, ho]
    by_cases hoo : o = e.o
    · subst hoo
      simp only [if_true]
      refine ⟨fun c hcc => ?_, fun q => by simp at q⟩
      simp only [Bool.false_eq_true, if_false, Option.some.injEq] at hcc
      subst hcc
      by_cases h6 : e.k = 6
      · have hn := h0.2 (hq.1 h6)
        have e1 : chanOf m.cs e.o = ⟨e.o, 0, 0, 0, false⟩ := by simp [chanOf, hq.1 h6]
        simp [chanTo, h6, e1, hn.1, hn.2]
      · obtain ⟨c, hf, -⟩ := hq.2 h6
        have hs := h0.1 c hf
        have e1 := (chanOf_some hf).1
        unfold chanTo
        rw [e1, if_neg h6]
        by_cases h7 : e.k = 7
        · simp [h7, hs.1, hs.2.1, hs.2.2]
        · by_cases h8 : e.k = 8
          · simp [h8, hs.1, hs.2.1, hs.2.2]
          · simp [h6, h7, h8, hs.1, hs.2.1, hs.2.2]
    · have hne : ¬ e.o = o := fun q => hoo q.symm
      simp only [hoo, hne, if_false, false_and, Nat.add_zero]
      exact h0
  · have ed : (doS m e).cs = m.cs := by
      unfold doS
      split
      · rfl
      · split
        · rfl
        · first | rw [if_neg hk] | skip
          split
          · rfl
          · split
            · rfl
            · split
              · rfl
              · rfl
    rw [ed, if_neg (by omega), if_neg (by omega), if_neg (by omega)]
    exact h0
theorem ChAt.leg : ∀ (es pre : List Ev) (m : Scn), ChAt pre m → (legS m es).2.2 = 0 → ChAt (pre ++ es) (legS m es).1
  | [], pre, m, h, _ => by simpa [legS] using h
  | e :: es, pre, m, h, hl => by
    by_cases q : codeIn m e = 0
    · rw [leg_go q] at hl ⊢
      have := ChAt.leg es (pre ++ [e]) (doS m e) (h.step q) hl
      simpa using this
    · rw [leg_no q] at hl
      exact absurd hl q

/-- The slot, by the channel. -/
def slotC (m : Scn) (e : Ev) : Int := (if e.k = 8 then (chanZ m e.o).got else (chanZ m e.o).sent).tmod (chanZ m e.o).cap
/-- What the event at j of a trace touches. -/
def touJ (es : List Ev) (j : Int) : List Tch :=
  if h : 0 ≤ j ∧ j < legLen es ∧ j.toNat < es.length then tchL es[j.toNat] (slotE (es.take j.toNat) es[j.toNat]) else []
theorem slot_same {es : List Ev} {m : Scn} {e : Ev} (h : ChAt es m) (hc : codeIn m e = 0) (hk : e.k = 7 ∨ e.k = 8) : slotC m e = slotE es e ∧ capK e.o es ≠ 0 := by
  obtain ⟨c, hf, h0⟩ := (code_chan hc (by omega) (by omega)).2 (by omega)
  have h1 := (h e.o).1 c hf
  have e1 := (chanOf_some hf).2.1
  refine ⟨?_, by rw [← h1.1]; exact h0 hk⟩
  unfold slotC slotE
  rw [e1, h1.1]
  rcases hk with hk | hk
  · rw [if_neg (by omega), h1.2.1, hk]
  · rw [if_pos hk, h1.2.2, hk]
theorem tch_same {es : List Ev} {m : Scn} {e : Ev} (h : ChAt es m) (hc : codeIn m e = 0) : tchL e (slotC m e) = tchL e (slotE es e) := by
  by_cases hk : e.k = 7 ∨ e.k = 8
  · rw [(slot_same h hc hk).1]
  · unfold tchL
    simp only [hk, if_false]
end Go.Proofs.YthehhiccfnhinaaGreatDoor
/-
  What an event touches, of all kinds: the specification's and the program's.
-/
namespace Go.Proofs.YthehhiccfnhinaaGreatDoor
open Go.RowKit

set_option maxHeartbeats 1000000 in
theorem l6Touches_any (ao : Option Addr) (n c : Nat) (es : List Ev) (w : World) (hn : es.length = n) (h : ReadsE w ao es) (j : Nat) (hj : j < es.length) (hk : 1 ≤ es[j].k ∧ es[j].k ≤ 22) (hr : es[j].k = 7 ∨ es[j].k = 8 → capK es[j].o (es.take j) ≠ 0) :
    Calls Tryz.prog 163 #[.slice ao n c, .int .i64 j] w fun x w' => ∃ v, x = .returned v ∧ OwnG layT w' w.heap.size v (tchL es[j] (slotE (es.take j) es[j])) ∧ Fr w w' := by
  obtain ⟨E, hE⟩ : ∃ E, E = es[j] := ⟨_, rfl⟩
  have hr2 : es[j].k = 7 ∨ es[j].k = 8 → capK es[j].o (es.take j) ≠ 0 := hr
  rw [← hE] at hk hr
  obtain ⟨k, fg, fo, fw, fl, fs, ff, ft⟩ := E
  simp only at hk hr
  have hr : k = 7 ∨ k = 8 → capK es[j].o (es.take j) ≠ 0 := fun q => hr2 (by rw [← hE]; exact q)
  clear hr2
  have hcs : k = 1 ∨ k = 2 ∨ k = 3 ∨ k = 4 ∨ k = 5 ∨ k = 6 ∨ k = 7 ∨ k = 8 ∨ k = 9 ∨ k = 10 ∨ k = 11 ∨ k = 12 ∨ k = 13 ∨ k = 14 ∨ k = 15 ∨ k = 16 ∨ k = 17 ∨ k = 18 ∨ k = 19 ∨ k = 20 ∨ k = 21 ∨ k = 22 := by omega
  have e0 : tchL es[j] (slotE (es.take j) es[j]) = tchL ⟨k, fg, fo, fw, fl, fs, ff, ft⟩ (slotE (es.take j) es[j]) := by rw [← hE]
  rw [e0]
  clear e0 hk
  rcases hcs with rfl | rfl | rfl | rfl | rfl | rfl | rfl | rfl | rfl | rfl | rfl | rfl | rfl | rfl | rfl | rfl | rfl | rfl | rfl | rfl | rfl | rfl
  · have e1 := l6T_1 fg fo fw fl fs ff ft ao n c es w hn h j hj hE.symm
    simpa [tchL] using e1
  · have e1 := l6T_2 fg fo fw fl fs ff ft ao n c es w hn h j hj hE.symm
    simpa [tchL] using e1
  · have e1 := l6T_3 fg fo fw fl fs ff ft ao n c es w hn h j hj hE.symm
    simpa [tchL] using e1
  · have e1 := l6T_4 fg fo fw fl fs ff ft ao n c es w hn h j hj hE.symm
    simpa [tchL] using e1
  · have e1 := l6T_5 fg fo fw fl fs ff ft ao n c es w hn h j hj hE.symm
    simpa [tchL] using e1
  · have e1 := l6T_6 fg fo fw fl fs ff ft ao n c es w hn h j hj hE.symm
    simpa [tchL] using e1
  · have e1 := l6T_7 fg fo fw fl fs ff ft ao n c es w hn h j hj hE.symm (hr (by simp))
    simpa [tchL] using e1
  · have e1 := l6T_8 fg fo fw fl fs ff ft ao n c es w hn h j hj hE.symm (hr (by simp))
    simpa [tchL] using e1
  · have e1 := l6T_9 fg fo fw fl fs ff ft ao n c es w hn h j hj hE.symm
    simpa [tchL] using e1
  · have e1 := l6T_10 fg fo fw fl fs ff ft ao n c es w hn h j hj hE.symm
    simpa [tchL] using e1
  · have e1 := l6T_11 fg fo fw fl fs ff ft ao n c es w hn h j hj hE.symm
    simpa [tchL] using e1
  · have e1 := l6T_12 fg fo fw fl fs ff ft ao n c es w hn h j hj hE.symm
    simpa [tchL] using e1
  · have e1 := l6T_13 fg fo fw fl fs ff ft ao n c es w hn h j hj hE.symm
    simpa [tchL] using e1
  · have e1 := l6T_14 fg fo fw fl fs ff ft ao n c es w hn h j hj hE.symm
    simpa [tchL] using e1
  · have e1 := l6T_15 fg fo fw fl fs ff ft ao n c es w hn h j hj hE.symm
    simpa [tchL] using e1
  · have e1 := l6T_16 fg fo fw fl fs ff ft ao n c es w hn h j hj hE.symm
    simpa [tchL] using e1
  · have e1 := l6T_17 fg fo fw fl fs ff ft ao n c es w hn h j hj hE.symm
    simpa [tchL] using e1
  · have e1 := l6T_18 fg fo fw fl fs ff ft ao n c es w hn h j hj hE.symm
    simpa [tchL] using e1
  · have e1 := l6T_19 fg fo fw fl fs ff ft ao n c es w hn h j hj hE.symm
    simpa [tchL] using e1
  · have e1 := l6T_20 fg fo fw fl fs ff ft ao n c es w hn h j hj hE.symm
    simpa [tchL] using e1
  · have e1 := l6T_21 fg fo fw fl fs ff ft ao n c es w hn h j hj hE.symm
    simpa [tchL] using e1
  · have e1 := l6T_22 fg fo fw fl fs ff ft ao n c es w hn h j hj hE.symm
    simpa [tchL] using e1

set_option maxHeartbeats 1000000 in
theorem touches_any {B : Nat → Prop} {b b1 b2 b3 b4 n : Nat} {m : Scn} (e : Ev) (w : World) (h : BoardM B w b b1 b2 b3 b4 n m) (hc : codeIn m e = 0) :
    Calls Tryz.prog 188 #[.pointer (some ⟨b, 0, none⟩), .agg #[.int .i64 e.k, .int .i64 e.g, .int .i64 e.o, .int .i64 e.w, .int .i64 e.l, .int .i64 e.s, .int .i64 e.f, .int .i64 e.t]] w fun x w' => ∃ v, x = .returned v ∧ OwnG layT w' w.heap.size v (tchL e (slotC m e)) ∧ Fr w w' := by
  have hp := code_parts hc
  have ho := evOk_o hp.1
  have hL := h.lookC (o := e.o) (i64_small (by omega))
  have hk : 1 ≤ e.k ∧ e.k ≤ 22 := by
    have h1 := hp.1
    simp only [evOk, Bool.and_eq_true] at h1
    simpa [inB] using h1.1.1.1.1.1.1.1
  have hs : e.k = 7 ∨ e.k = 8 → (chanZ m e.o).cap ≠ 0 ∧ (0 ≤ (chanZ m e.o).got ∧ 0 ≤ (chanZ m e.o).sent ∧ (chanZ m e.o).got ≤ 1000000 ∧ (chanZ m e.o).sent ≤ 1000000 ∧ 0 ≤ (chanZ m e.o).cap ∧ (chanZ m e.o).cap ≤ 8) := by
    intro q
    obtain ⟨c, hf, h0⟩ := (code_chan hc (by omega) (by omega)).2 (by omega)
    have q1 := chan_in hp.2.1 e.o
    rw [(chanOf_some hf).1] at q1
    rw [(chanOf_some hf).2.1]
    exact ⟨h0 q, by omega⟩
  clear hp ho hc
  obtain ⟨k, gr, o, wi, l, sz, f, t⟩ := e
  simp only at hL hk hs ⊢
  have hcs : k = 1 ∨ k = 2 ∨ k = 3 ∨ k = 4 ∨ k = 5 ∨ k = 6 ∨ k = 7 ∨ k = 8 ∨ k = 9 ∨ k = 10 ∨ k = 11 ∨ k = 12 ∨ k = 13 ∨ k = 14 ∨ k = 15 ∨ k = 16 ∨ k = 17 ∨ k = 18 ∨ k = 19 ∨ k = 20 ∨ k = 21 ∨ k = 22 := by omega
  clear hk
  rcases hcs with rfl | rfl | rfl | rfl | rfl | rfl | rfl | rfl | rfl | rfl | rfl | rfl | rfl | rfl | rfl | rfl | rfl | rfl | rfl | rfl | rfl | rfl
  · have e1 := tchI_1 b b2 (chanZ m o).o (chanZ m o).cap (chanZ m o).sent (chanZ m o).got (chanZ m o).cl gr o wi l sz f t w h.c2 hL
    simpa [tchL] using e1
  · have e1 := tchI_2 b b2 (chanZ m o).o (chanZ m o).cap (chanZ m o).sent (chanZ m o).got (chanZ m o).cl gr o wi l sz f t w h.c2 hL
    simpa [tchL] using e1
  · have e1 := tchI_3 b b2 (chanZ m o).o (chanZ m o).cap (chanZ m o).sent (chanZ m o).got (chanZ m o).cl gr o wi l sz f t w h.c2 hL
    simpa [tchL] using e1
  · have e1 := tchI_4 b b2 (chanZ m o).o (chanZ m o).cap (chanZ m o).sent (chanZ m o).got (chanZ m o).cl gr o wi l sz f t w h.c2 hL
    simpa [tchL] using e1
  · have e1 := tchI_5 b b2 (chanZ m o).o (chanZ m o).cap (chanZ m o).sent (chanZ m o).got (chanZ m o).cl gr o wi l sz f t w h.c2 hL
    simpa [tchL] using e1
  · have e1 := tchI_6 b b2 (chanZ m o).o (chanZ m o).cap (chanZ m o).sent (chanZ m o).got (chanZ m o).cl gr o wi l sz f t w h.c2 hL
    simpa [tchL] using e1
  · obtain ⟨s1, s2⟩ := hs (by simp)
    have e1 := tchI_7 b b2 (chanZ m o).o (chanZ m o).cap (chanZ m o).sent (chanZ m o).got (chanZ m o).cl gr o wi l sz f t w h.c2 s1 s2 hL
    have e2 : slotC m ⟨7, gr, o, wi, l, sz, f, t⟩ = (chanZ m o).sent % (chanZ m o).cap := by
      simp only [slotC]
      first | rw [if_neg (by decide)] | rw [if_pos trivial]
      exact Int.tmod_eq_emod_of_nonneg (by omega)
    rw [e2]
    simpa [tchL] using e1
  · obtain ⟨s1, s2⟩ := hs (by simp)
    have e1 := tchI_8 b b2 (chanZ m o).o (chanZ m o).cap (chanZ m o).sent (chanZ m o).got (chanZ m o).cl gr o wi l sz f t w h.c2 s1 s2 hL
    have e2 : slotC m ⟨8, gr, o, wi, l, sz, f, t⟩ = (chanZ m o).got % (chanZ m o).cap := by
      simp only [slotC]
      first | rw [if_neg (by decide)] | rw [if_pos trivial]
      exact Int.tmod_eq_emod_of_nonneg (by omega)
    rw [e2]
    simpa [tchL] using e1
  · have e1 := tchI_9 b b2 (chanZ m o).o (chanZ m o).cap (chanZ m o).sent (chanZ m o).got (chanZ m o).cl gr o wi l sz f t w h.c2 hL
    simpa [tchL] using e1
  · have e1 := tchI_10 b b2 (chanZ m o).o (chanZ m o).cap (chanZ m o).sent (chanZ m o).got (chanZ m o).cl gr o wi l sz f t w h.c2 hL
    simpa [tchL] using e1
  · have e1 := tchI_11 b b2 (chanZ m o).o (chanZ m o).cap (chanZ m o).sent (chanZ m o).got (chanZ m o).cl gr o wi l sz f t w h.c2 hL
    simpa [tchL] using e1
  · have e1 := tchI_12 b b2 (chanZ m o).o (chanZ m o).cap (chanZ m o).sent (chanZ m o).got (chanZ m o).cl gr o wi l sz f t w h.c2 hL
    simpa [tchL] using e1
  · have e1 := tchI_13 b b2 (chanZ m o).o (chanZ m o).cap (chanZ m o).sent (chanZ m o).got (chanZ m o).cl gr o wi l sz f t w h.c2 hL
    simpa [tchL] using e1
  · have e1 := tchI_14 b b2 (chanZ m o).o (chanZ m o).cap (chanZ m o).sent (chanZ m o).got (chanZ m o).cl gr o wi l sz f t w h.c2 hL
    simpa [tchL] using e1
  · have e1 := tchI_15 b b2 (chanZ m o).o (chanZ m o).cap (chanZ m o).sent (chanZ m o).got (chanZ m o).cl gr o wi l sz f t w h.c2 hL
    simpa [tchL] using e1
  · have e1 := tchI_16 b b2 (chanZ m o).o (chanZ m o).cap (chanZ m o).sent (chanZ m o).got (chanZ m o).cl gr o wi l sz f t w h.c2 hL
    simpa [tchL] using e1
  · have e1 := tchI_17 b b2 (chanZ m o).o (chanZ m o).cap (chanZ m o).sent (chanZ m o).got (chanZ m o).cl gr o wi l sz f t w h.c2 hL
    simpa [tchL] using e1
  · have e1 := tchI_18 b b2 (chanZ m o).o (chanZ m o).cap (chanZ m o).sent (chanZ m o).got (chanZ m o).cl gr o wi l sz f t w h.c2 hL
    simpa [tchL] using e1
  · have e1 := tchI_19 b b2 (chanZ m o).o (chanZ m o).cap (chanZ m o).sent (chanZ m o).got (chanZ m o).cl gr o wi l sz f t w h.c2 hL
    simpa [tchL] using e1
  · have e1 := tchI_20 b b2 (chanZ m o).o (chanZ m o).cap (chanZ m o).sent (chanZ m o).got (chanZ m o).cl gr o wi l sz f t w h.c2 hL
    simpa [tchL] using e1
  · have e1 := tchI_21 b b2 (chanZ m o).o (chanZ m o).cap (chanZ m o).sent (chanZ m o).got (chanZ m o).cl gr o wi l sz f t w h.c2 hL
    simpa [tchL] using e1
  · have e1 := tchI_22 b b2 (chanZ m o).o (chanZ m o).cap (chanZ m o).sent (chanZ m o).got (chanZ m o).cl gr o wi l sz f t w h.c2 hL
    simpa [tchL] using e1

/-- What is legal, and the next event that can be done, are of the legal part. -/
theorem leg_more : ∀ (es : List Ev) (m : Scn) (k : Nat) (h : k < es.length), (legS m (es.take k)).2.2 = 0 → codeIn (legS m (es.take k)).1 es[k] = 0 → k < (legS m es).2.1
  | [], _, _, h, _, _ => by simp at h
  | e :: es, m, 0, _, _, h2 => by
    simp only [List.take_zero, legS, List.getElem_cons_zero] at h2
    rw [leg_go h2]
    simp
  | e :: es, m, k + 1, h, h1, h2 => by
    rw [List.take_succ_cons] at h1 h2
    by_cases q : codeIn m e = 0
    · rw [leg_go q] at h1 h2 ⊢
      simp only [List.getElem_cons_succ] at h1 h2 ⊢
      have := leg_more es (doS m e) k (by simpa using h) h1 h2
      omega
    · rw [leg_no q] at h1
      exact absurd h1 q
end Go.Proofs.YthehhiccfnhinaaGreatDoor
