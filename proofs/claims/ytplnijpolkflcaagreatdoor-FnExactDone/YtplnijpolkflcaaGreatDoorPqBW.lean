/-
  Pack BW: ScMarkL, ScSz.
-/
import Derived.Test.YtplnijpolkflcaaGreatDoorPqBU
import Derived.Test.YtplnijpolkflcaaGreatDoorPqBN
import Derived.Test.YtplnijpolkflcaaGreatDoorPqAS
namespace Go.Proofs.YtplnijpolkflcaaGreatDoor
open Go.RowKit

def totL : List Lv → Nat
  | [] => 0
  | lv :: r => 2 + lv.rn + totL r
theorem totL_app : ∀ (a b : List Lv), totL (a ++ b) = totL a + totL b
  | [], b => by simp [totL]
  | x :: a, b => by simp only [List.cons_append, totL, totL_app a b]; omega
theorem totL_succ (xs : List Lv) (k : Nat) (hk : k < xs.length) : totL (xs.take (k + 1)) = totL (xs.take k) + 2 + xs[k].rn := by
  rw [List.take_succ_eq_append_getElem hk, totL_app]
  simp [totL]
  omega
theorem totL_take : ∀ (xs : List Lv) (k : Nat), totL (xs.take k) ≤ totL xs
  | _, 0 => by simp [totL]
  | [], k + 1 => by simp
  | x :: xs, k + 1 => by
    have := totL_take xs k
    simp only [List.take_succ_cons, totL]
    omega
def mkLs (q : Int) : List Lv → List Lv
  | [] => []
  | lv :: r => ⟨q, q + 1, lv.ro, lv.rn, lv.rc⟩ :: mkLs (q + 2 + (lv.rn : Int)) r
theorem mkLs_len : ∀ (xs : List Lv) (q : Int), (mkLs q xs).length = xs.length
  | [], _ => rfl
  | x :: xs, q => by simp [mkLs, mkLs_len xs]
theorem mkLs_app : ∀ (a b : List Lv) (q : Int), mkLs q (a ++ b) = mkLs q a ++ mkLs (q + (totL a : Int)) b
  | [], b, q => by simp [mkLs, totL]
  | x :: a, b, q => by
    simp only [List.cons_append, mkLs, mkLs_app a b, totL]
    congr 3
    omega
theorem mkLs_succ (xs : List Lv) (q : Int) (k : Nat) (hk : k < xs.length) : mkLs q (xs.take (k + 1)) = mkLs q (xs.take k) ++ [⟨q + (totL (xs.take k) : Int), q + (totL (xs.take k) : Int) + 1, xs[k].ro, xs[k].rn, xs[k].rc⟩] := by
  rw [List.take_succ_eq_append_getElem hk, mkLs_app]
  rfl
theorem mkLs_at (xs : List Lv) (q : Int) (k : Nat) (hk : k < xs.length) (hk2 : k < (mkLs q xs).length) : (mkLs q xs)[k] = ⟨q + (totL (xs.take k) : Int), q + (totL (xs.take k) : Int) + 1, xs[k].ro, xs[k].rn, xs[k].rc⟩ := by
  have e : mkLs q xs = mkLs q (xs.take (k + 1)) ++ mkLs (q + (totL (xs.take (k + 1)) : Int)) (xs.drop (k + 1)) := by rw [← mkLs_app, List.take_append_drop]
  have h1 : (mkLs q (xs.take k)).length = k := by rw [mkLs_len]; simp; omega
  simp only [e, mkLs_succ xs q k hk]
  rw [List.getElem_append_left (by simp [h1]), List.getElem_append_right (by omega)]
  simp [h1]

structure LO (w : World) (g base : Nat) (lvs : List Lv) : Prop where
  row : RowAt w g 82
  own : ∀ j (hj : j < lvs.length), ∃ gj, lvs[j].ro = some ⟨gj, 0, none⟩ ∧ gj ≠ g ∧ ∃ xs : List Int, xs.length = lvs[j].rn ∧ OwnI w base (.slice (some ⟨gj, 0, none⟩) lvs[j].rn lvs[j].rc) xs
  ap : ∀ i j (hi : i < lvs.length) (hj : j < lvs.length), i ≠ j → lvs[i].ro ≠ lvs[j].ro
def BlkL (g : Nat) (lvs : List Lv) (x : Nat) : Prop := x = g ∨ ∃ j, ∃ h : j < lvs.length, lvs[j].ro = some ⟨x, 0, none⟩
structure MX (w wr : World) (g base : Nat) (q : Int) (lvs : List Lv) (k : Nat) : Prop where
  row : RowAt wr g 82
  rd : ReadsG layL wr (some ⟨g, 0, none⟩) (mkLs q (lvs.take k) ++ lvs.drop k)
  new : ∀ j (hj : j < lvs.length), j < k → ∃ gj, lvs[j].ro = some ⟨gj, 0, none⟩ ∧ gj ≠ g ∧ OwnI wr base (.slice (some ⟨gj, 0, none⟩) lvs[j].rn lvs[j].rc) (ups (q + (totL (lvs.take j) : Int) + 2) lvs[j].rn)
  old : ∀ j (hj : j < lvs.length), k ≤ j → ∃ gj, lvs[j].ro = some ⟨gj, 0, none⟩ ∧ gj ≠ g ∧ ∃ xs : List Int, xs.length = lvs[j].rn ∧ OwnI wr base (.slice (some ⟨gj, 0, none⟩) lvs[j].rn lvs[j].rc) xs
  fr : FrS (BlkL g lvs) w wr

theorem own_other {w w' : World} {base g gj n c : Nat} {xs : List Int} (h : OwnI w base (.slice (some ⟨gj, 0, none⟩) n c) xs) (k : w.grownBy w' (some g)) (hne : gj ≠ g) : OwnI w' base (.slice (some ⟨gj, 0, none⟩) n c) xs :=
  h.keep k (.inr (by simp [Value.ownBlock]; exact hne))
theorem MX.step {w wr w3 : World} {g base k gk : Nat} {q : Int} {lvs : List Lv} (h : MX w wr g base q lvs k) (hap : ∀ i j (hi : i < lvs.length) (hj : j < lvs.length), i ≠ j → lvs[i].ro ≠ lvs[j].ro) (hk : k < lvs.length) (hgk : lvs[k].ro = some ⟨gk, 0, none⟩) (hne : gk ≠ g)
    (k3 : ((wr.setCell ⟨g, k * 3, none⟩ (.int .i64 (q + (totL (lvs.take k) : Int)))).setCell ⟨g, k * 3 + 1, none⟩ (.int .i64 (q + (totL (lvs.take k) : Int) + 1))).grownBy w3 (some gk))
    (o3 : OwnI w3 base (.slice (some ⟨gk, 0, none⟩) lvs[k].rn lvs[k].rc) (ups (q + (totL (lvs.take k) : Int) + 2) lvs[k].rn)) : MX w w3 g base q lvs (k + 1) := by
  have hml : (mkLs q (lvs.take k)).length = k := by rw [mkLs_len]; simp; omega
  have hkl : k < (mkLs q (lvs.take k) ++ lvs.drop k).length := by rw [List.length_append, hml]; simp; omega
  have hel : (mkLs q (lvs.take k) ++ lvs.drop k)[k] = lvs[k] := by
    rw [List.getElem_append_right (by omega)]
    simp [hml]
  have k2 := grown_trans (grown_set wr g (k * 3) (.int .i64 (q + (totL (lvs.take k) : Int)))) (grown_set (wr.setCell ⟨g, k * 3, none⟩ (.int .i64 (q + (totL (lvs.take k) : Int)))) g (k * 3 + 1) (.int .i64 (q + (totL (lvs.take k) : Int) + 1)))
  have hg : g < wr.heap.size := by
    obtain ⟨cur, hc⟩ := h.row
    exact (Array.getElem?_eq_some_iff.1 hc).1
  refine ⟨?_, ?_, fun j hj hjk => ?_, fun j hj hjk => ?_, ?_⟩
  · obtain ⟨cur, hc⟩ := (h.row.set (k * 3) (.int .i64 (q + (totL (lvs.take k) : Int)))).set (k * 3 + 1) (.int .i64 (q + (totL (lvs.take k) : Int) + 1))
    exact ⟨cur, (k3.block g (by have := k2.size; omega) (by simpa using fun e => hne e.symm)).trans hc⟩
  · have h1 := reads_cell (L := layL) (q := 0) (e := { lvs[k] with o := q + (totL (lvs.take k) : Int) }) (v := .int .i64 (q + (totL (lvs.take k) : Int))) h.rd hkl (by decide) (by rw [hel]; rfl)
    have h2 := reads_cell (L := layL) (q := 1) (e := { lvs[k] with o := q + (totL (lvs.take k) : Int), wr := q + (totL (lvs.take k) : Int) + 1 }) (v := .int .i64 (q + (totL (lvs.take k) : Int) + 1)) h1 (by simpa using hkl) (by decide) (by rw [List.getElem_set_self]; rfl)
    rw [List.set_set, List.drop_eq_getElem_cons hk, set_mid _ _ _ _ _ hml, ← mkLs_succ lvs q k hk] at h2
    exact ReadsG.keep h2 k3 (.inr (by simpa [blk] using fun e => hne e.symm))
  · by_cases e : j = k
    · subst e
      exact ⟨gk, hgk, hne, o3⟩
    · obtain ⟨gj, a1, a2, a3⟩ := h.new j hj (by omega)
      refine ⟨gj, a1, a2, own_other (own_other a3 k2 a2) k3 (fun e2 => ?_)⟩
      have := hap j k hj hk e
      rw [a1, hgk, e2] at this
      exact this rfl
  · obtain ⟨gj, a1, a2, xs, a3, a4⟩ := h.old j hj (by omega)
    refine ⟨gj, a1, a2, xs, a3, own_other (own_other a4 k2 a2) k3 (fun e2 => ?_)⟩
    have := hap j k hj hk (by omega)
    rw [a1, hgk, e2] at this
    exact this rfl
  · exact h.fr.trans ((grown_toS k2 (.inl rfl)).trans (grown_toS k3 (.inr ⟨k, hk, hgk⟩)))

set_option maxRecDepth 20000 in
set_option maxHeartbeats 2000000 in
theorem markL_any (g n cap base : Nat) (q : Int) (lvs : List Lv) (w : World) (hn : lvs.length = n) (hl : n ≤ 1048576) (ht : totL lvs ≤ 4194304) (q0 : 0 ≤ q) (q1 : q ≤ 4000000000) (h : ReadsG layL w (some ⟨g, 0, none⟩) lvs) (hO : LO w g base lvs) :
    Calls Tryz.prog 93 #[.slice (some ⟨g, 0, none⟩) n cap, .int .i64 q] w fun e w' => e = .returned (.int .i64 (q + (totL lvs : Int))) ∧ MX w w' g base q lvs lvs.length := by
  subst hn
  have M0 : MX w w g base q lvs 0 := ⟨hO.row, by simpa [mkLs] using h, fun j _ hj => by omega, fun j hj _ => hO.own j hj, FrS.refl _ _⟩
  have hap := hO.ap
  clear hO h
  go_enter Tryz.func93, Tryz.ntmps93
  go_wp2_with fail
  go_loopw [1, 5] (fun c i wr => ∃ k : Nat, k ≤ lvs.length ∧ i = .int .i64 k ∧ c = .int .i64 (q + (totL (lvs.take k) : Int)) ∧ MX w wr g base q lvs k) (fun _ i _ => lvs.length - (intOf i).toNat)
  case atStart => exact ⟨0, Nat.zero_le _, rfl, by simp [totL], M0⟩
  case round =>
    clear M0
    obtain ⟨k, hk, rfl, rfl, hM⟩ := hrel
    by_cases hlt : k < lvs.length
    · have hml : (mkLs q (lvs.take k)).length = k := by rw [mkLs_len]; simp; omega
      have hkl : k < (mkLs q (lvs.take k) ++ lvs.drop k).length := by rw [List.length_append, hml]; simp; omega
      have hel : (mkLs q (lvs.take k) ++ lvs.drop k)[k] = lvs[k] := by
        rw [List.getElem_append_right (by omega)]
        simp [hml]
      obtain ⟨b, off, e0, d0, d1, d2⟩ := lv_at hM.rd k hkl
      simp only [Option.some.injEq, Addr.mk.injEq, and_true] at e0
      obtain ⟨rfl, rfl⟩ := e0
      rw [hel] at d0 d1 d2
      simp only [Nat.zero_add] at d0 d1 d2
      obtain ⟨gk, a1, a2, xs, a3, a4⟩ := hM.old k hlt (Nat.le_refl _)
      rw [a1] at d2
      have z0 := hM.row.free (k * 3)
      have z1 := hM.row.free (k * 3 + 1)
      have htk := totL_take lvs (k + 1)
      have hts := totL_succ lvs k hlt
      have hi : (k : Int) < lvs.length := by omega
      have k2 := grown_trans (grown_set wr g (k * 3) (.int .i64 (q + (totL (lvs.take k) : Int)))) (grown_set (wr.setCell ⟨g, k * 3, none⟩ (.int .i64 (q + (totL (lvs.take k) : Int)))) g (k * 3 + 1) (.int .i64 (q + (totL (lvs.take k) : Int) + 1)))
      have o2 := own_other a4 k2 a2
      have e2 : q + (totL (lvs.take k) : Int) + 1 + 1 = q + (totL (lvs.take k) : Int) + 2 := by omega
      have cM := mark_any gk lvs[k].rn lvs[k].rc base (q + (totL (lvs.take k) : Int) + 1 + 1) xs _ a3 (by omega) (by omega) o2
      have HST : Hid (∀ w3, ((wr.setCell ⟨g, k * 3, none⟩ (.int .i64 (q + (totL (lvs.take k) : Int)))).setCell ⟨g, k * 3 + 1, none⟩ (.int .i64 (q + (totL (lvs.take k) : Int) + 1))).grownBy w3 (some gk) → OwnI w3 base (.slice (some ⟨gk, 0, none⟩) lvs[k].rn lvs[k].rc) (ups (q + (totL (lvs.take k) : Int) + 1 + 1) lvs[k].rn) → MX w w3 g base q lvs (k + 1)) := fun w3 k3 o3 => hM.step hap hlt a1 a2 k3 (by rw [← e2]; exact o3)
      have HT : Hid (q + (totL (lvs.take k) : Int) + 1 + 1 + (lvs[k].rn : Int) = q + (totL (lvs.take (k + 1)) : Int)) := by
        show q + (totL (lvs.take k) : Int) + 1 + 1 + (lvs[k].rn : Int) = q + (totL (lvs.take (k + 1)) : Int)
        rw [hts]; omega
      have hKb : 0 ≤ q + (totL (lvs.take k) : Int) ∧ q + (totL (lvs.take k) : Int) ≤ 4100000000 := by omega
      clear hM hel hkl hml k2 o2 e2 hts htk a4
      obtain ⟨K, hK⟩ : ∃ K, K = q + (totL (lvs.take k) : Int) := ⟨_, rfl⟩
      rw [← hK] at hKb ⊢
      simp only [← hK] at cM HST HT
      clear hK
      obtain ⟨rn, hrn⟩ : ∃ r, r = lvs[k].rn := ⟨_, rfl⟩
      obtain ⟨rc, hrc⟩ : ∃ r, r = lvs[k].rc := ⟨_, rfl⟩
      rw [← hrn, ← hrc] at d2
      rw [← hrn, ← hrc] at cM
      simp only [← hrn, ← hrc] at HST HT
      clear hrn hrc
      go_wp2_with fail
      refine cM.mono ?_
      rintro x w3 ⟨rfl, o3, k3⟩
      clear cM
      have HM3 : Hid (MX w w3 g base q lvs (k + 1)) := HST.out w3 k3 o3
      clear HST o3 k3
      go_wp2_with fail
      go_roundw
      case rel => exact ⟨k + 1, by omega, by go_num, by rw [HT.out], HM3.out⟩
      case measure => simp [intOf]; omega
    · have e : k = lvs.length := by omega
      subst e
      rw [List.take_length]
      go_wp2_with fail
      go_ret
      exact ⟨rfl, hM⟩

set_option maxHeartbeats 2000000 in
theorem heldL_any (ao : Option Addr) (n cap : Nat) (q : Int) (lvs : List Lv) (w : World) (hn : lvs.length = n) (hl : n ≤ 1048576) (ht : totL lvs ≤ 4194304) (q0 : 0 ≤ q) (q1 : q ≤ 4000000000) (h : ReadsG layL w ao (mkLs q lvs)) (hR : ∀ j (hj : j < lvs.length), Reads w lvs[j].ro (ups (q + (totL (lvs.take j) : Int) + 2) lvs[j].rn)) :
    Calls Tryz.prog 96 #[.slice ao n cap, .int .i64 q] w fun e w' => e = .returned (.int .i64 (q + (totL lvs : Int))) ∧ w' = w := by
  subst hn
  go_enter Tryz.func96, Tryz.ntmps96
  go_wp2_with fail
  go_loop [1, 5] (fun c i => ∃ k : Nat, k ≤ lvs.length ∧ i = .int .i64 k ∧ c = .int .i64 (q + (totL (lvs.take k) : Int))) (fun _ i => lvs.length - (intOf i).toNat)
  case atStart => exact ⟨0, Nat.zero_le _, rfl, by simp [totL]⟩
  case round =>
    obtain ⟨k, hk, rfl, rfl⟩ := hrel
    by_cases hlt : k < lvs.length
    · have hkl : k < (mkLs q lvs).length := by rw [mkLs_len]; exact hlt
      obtain ⟨b, off, rfl, d0, d1, d2⟩ := lv_at h k hkl
      rw [mkLs_at lvs q k hlt] at d0 d1 d2
      simp only at d0 d1 d2
      have hRk := hR k hlt
      have htk := totL_take lvs (k + 1)
      have hts := totL_succ lvs k hlt
      have hi : (k : Int) < lvs.length := by omega
      have e2 : q + (totL (lvs.take k) : Int) + 2 = q + (totL (lvs.take k) : Int) + 1 + 1 := by omega
      rw [e2] at hRk
      have cH := held_any lvs[k].ro lvs[k].rn lvs[k].rc (q + (totL (lvs.take k) : Int) + 1 + 1) w (by omega) (by omega) hRk
      have HT : Hid (q + (totL (lvs.take k) : Int) + 1 + 1 + (lvs[k].rn : Int) = q + (totL (lvs.take (k + 1)) : Int)) := by
        show q + (totL (lvs.take k) : Int) + 1 + 1 + (lvs[k].rn : Int) = q + (totL (lvs.take (k + 1)) : Int)
        rw [hts]; omega
      have hKb : 0 ≤ q + (totL (lvs.take k) : Int) ∧ q + (totL (lvs.take k) : Int) ≤ 4100000000 := by omega
      have hrb : (lvs[k].rn : Int) ≤ 4194304 := by omega
      clear hts htk e2 hRk
      obtain ⟨K, hK⟩ : ∃ K, K = q + (totL (lvs.take k) : Int) := ⟨_, rfl⟩
      rw [← hK] at hKb d0 d1 ⊢
      rw [← hK] at cH
      simp only [← hK] at HT
      clear hK
      obtain ⟨ro, hro⟩ : ∃ r, r = lvs[k].ro := ⟨_, rfl⟩
      obtain ⟨rn, hrn⟩ : ∃ r, r = lvs[k].rn := ⟨_, rfl⟩
      obtain ⟨rc, hrc⟩ : ∃ r, r = lvs[k].rc := ⟨_, rfl⟩
      rw [← hro, ← hrn, ← hrc] at d2
      rw [← hro, ← hrn, ← hrc] at cH
      rw [← hrn] at hrb
      simp only [← hrn] at HT
      clear hro hrn hrc
      have hb0 : (K != K) = false := by simp
      have hb1 : (K + 1 != K + 1) = false := by simp
      have hb2 : ¬ (K + 1 + 1 + (rn : Int) < 0) := by omega
      go_wp2_with fail
      refine cH.mono ?_
      rintro x w3 ⟨rfl, rfl⟩
      clear cH
      go_wp2_with fail
      go_round
      case rel => exact ⟨k + 1, by omega, by go_num, by rw [HT.out]⟩
      case measure => simp [intOf]; omega
    · have e : k = lvs.length := by omega
      subst e
      rw [List.take_length]
      go_wp2_with fail
      go_ret
      exact ⟨rfl, rfl⟩
end Go.Proofs.YtplnijpolkflcaaGreatDoor
namespace Go.Proofs.YtplnijpolkflcaaGreatDoor
open Go.RowKit

theorem szChanS_any (ao : Option Addr) (n cap : Nat) (L : Int) (w : World) (hn : n ≤ 9223372036854775807) (l0 : 0 ≤ L) (l1 : L ≤ 1048576) :
    Calls Tryz.prog 81 #[.slice ao n cap, .int .i64 L] w fun e w' => e = .returned (.int .i64 (if (n : Int) ≤ L then L - (n : Int) else -1)) ∧ w' = w := by
  by_cases h : (n : Int) ≤ L
  · rw [if_pos h]
    go_enter Tryz.func81, Tryz.ntmps81
    go_wp2
    go_ret
    exact ⟨rfl, rfl⟩
  · rw [if_neg h]
    go_enter Tryz.func81, Tryz.ntmps81
    go_wp2
    go_ret
    exact ⟨rfl, rfl⟩
theorem szCountS_any (ao : Option Addr) (n cap : Nat) (L : Int) (w : World) (hn : n ≤ 9223372036854775807) (l0 : 0 ≤ L) (l1 : L ≤ 1048576) :
    Calls Tryz.prog 82 #[.slice ao n cap, .int .i64 L] w fun e w' => e = .returned (.int .i64 (if (n : Int) ≤ L then L - (n : Int) else -1)) ∧ w' = w := by
  by_cases h : (n : Int) ≤ L
  · rw [if_pos h]
    go_enter Tryz.func82, Tryz.ntmps82
    go_wp2
    go_ret
    exact ⟨rfl, rfl⟩
  · rw [if_neg h]
    go_enter Tryz.func82, Tryz.ntmps82
    go_wp2
    go_ret
    exact ⟨rfl, rfl⟩
theorem szInt64S_any (ao : Option Addr) (n cap : Nat) (L : Int) (w : World) (hn : n ≤ 9223372036854775807) (l0 : 0 ≤ L) (l1 : L ≤ 1048576) :
    Calls Tryz.prog 83 #[.slice ao n cap, .int .i64 L] w fun e w' => e = .returned (.int .i64 (if (n : Int) ≤ L then L - (n : Int) else -1)) ∧ w' = w := by
  by_cases h : (n : Int) ≤ L
  · rw [if_pos h]
    go_enter Tryz.func83, Tryz.ntmps83
    go_wp2
    go_ret
    exact ⟨rfl, rfl⟩
  · rw [if_neg h]
    go_enter Tryz.func83, Tryz.ntmps83
    go_wp2
    go_ret
    exact ⟨rfl, rfl⟩

set_option maxHeartbeats 400000 in
theorem szLock_any (lv : Lv) (L : Int) (w : World) (hn : lv.rn ≤ 9223372036854775807) (l0 : 0 ≤ L) (l1 : L ≤ 1048576) :
    Calls Tryz.prog 148 #[.agg #[.int .i64 lv.o, .int .i64 lv.wr, .slice lv.ro lv.rn lv.rc], .int .i64 L] w fun e w' => e = .returned (.int .i64 (if (lv.rn : Int) ≤ L then L - (lv.rn : Int) else -1)) ∧ Fr w w' := by
  obtain ⟨o, wt, ro, rn, rc⟩ := lv
  simp only at hn ⊢
  have c := szInt64S_any ro rn rc L (w.alloc (.cells #[.int .i64 o, .int .i64 wt, .slice ro rn rc] 179)) hn l0 l1
  by_cases h : (rn : Int) ≤ L
  · rw [if_pos h] at c ⊢
    go_enter Tryz.func148, Tryz.ntmps148
    go_wp2_with fail
    refine c.mono ?_
    rintro e u ⟨rfl, rfl⟩
    go_wp2_with fail
    go_ret
    exact ⟨rfl, Fr.alloc _ _⟩
  · rw [if_neg h] at c ⊢
    go_enter Tryz.func148, Tryz.ntmps148
    go_wp2_with fail
    refine c.mono ?_
    rintro e u ⟨rfl, rfl⟩
    go_wp2_with fail
    go_ret
    exact ⟨rfl, Fr.alloc _ _⟩

set_option maxHeartbeats 1000000 in
theorem szLockS_any (ao : Option Addr) (n cap : Nat) (w : World) (hn : n ≤ 9223372036854775807) (h : n ≤ 1048576 → ∃ lvs : List Lv, lvs.length = n ∧ ReadsG layL w ao lvs ∧ ∀ lv ∈ lvs, lv.rn ≤ 9223372036854775807) :
    Calls Tryz.prog 80 #[.slice ao n cap, .int .i64 1048576] w fun e w' => ∃ r : Int, e = .returned (.int .i64 r) ∧ (r = -1 ∨ (0 ≤ r ∧ r ≤ 1048576 ∧ ∃ lvs : List Lv, lvs.length = n ∧ lvs.length ≤ 1048576 ∧ ReadsG layL w ao lvs ∧ ∀ lv ∈ lvs, lv.rn ≤ 1048576)) ∧ Fr w w' := by
  by_cases hb : n ≤ 1048576
  · obtain ⟨lvs, rfl, hr, hm⟩ := h hb
    clear h
    go_enter Tryz.func80, Tryz.ntmps80
    go_wp2_with fail
    go_loopw [1, 5] (fun q i wr => ∃ (k : Nat) (L : Int), k ≤ lvs.length ∧ i = .int .i64 k ∧ q = .int .i64 L ∧ 0 ≤ L ∧ L ≤ 1048576 ∧ Hid (∀ j (hj : j < lvs.length), j < k → lvs[j].rn ≤ 1048576) ∧ Fr w wr) (fun _ i _ => lvs.length - (intOf i).toNat)
    case atStart => exact ⟨0, 1048576 - (lvs.length : Int), Nat.zero_le _, rfl, by go_num, by omega, by omega, fun j hj hk => by omega, Fr.refl w⟩
    case round =>
      obtain ⟨k, L, hk, rfl, rfl, l0, l1, HA, hf⟩ := hrel
      by_cases hlt : k < lvs.length
      · obtain ⟨b, off, rfl, d0, d1, d2⟩ := lv_at (hr.fr hf) k hlt
        have hm2 := hm lvs[k] (List.getElem_mem hlt)
        have HX : Hid (lvs[k].rn ≤ 1048576 → ∀ j (hj : j < lvs.length), j < k + 1 → lvs[j].rn ≤ 1048576) := fun q j hj hjk => by
          by_cases e : j = k
          · subst e; exact q
          · exact HA.out j hj (by omega)
        obtain ⟨e, he⟩ : ∃ e, e = lvs[k] := ⟨_, rfl⟩
        simp only [← he] at d0 d1 d2 hm2
        rw [← he] at HX
        clear he
        have c := szLock_any e L wr hm2 l0 l1
        by_cases hle : (e.rn : Int) ≤ L
        · rw [if_pos hle] at c
          have HY := HX.out (by omega)
          have HY : Hid _ := HY
          go_wp2_with fail
          refine c.mono ?_
          rintro x u ⟨rfl, fu⟩
          have h0 : 0 ≤ L - (e.rn : Int) := by omega
          have h1 : L - (e.rn : Int) ≤ 1048576 := by omega
          obtain ⟨L2, hL2⟩ : ∃ L2, L2 = L - (e.rn : Int) := ⟨_, rfl⟩
          rw [← hL2] at h0 h1 ⊢
          clear hL2 c d0 d1 d2 hm2
          go_wp2_with fail
          go_roundw
          case rel => exact ⟨k + 1, L2, by omega, by go_num, rfl, h0, h1, HY, hf.trans fu⟩
          case measure => simp [intOf]; omega
        · rw [if_neg hle] at c
          go_wp2_with fail
          refine c.mono ?_
          rintro x u ⟨rfl, fu⟩
          go_wp2_with fail
          go_ret
          exact ⟨-1, rfl, .inl rfl, hf.trans fu⟩
      · go_wp2_with fail
        go_ret
        refine ⟨L, rfl, .inr ⟨l0, l1, lvs, rfl, hb, hr, fun lv hlv => ?_⟩, hf⟩
        obtain ⟨j, hj, rfl⟩ := List.mem_iff_getElem.1 hlv
        exact HA.out j hj (by omega)
  · have hd : (1048576 : Int) - (n : Int) < 0 := by omega
    go_enter Tryz.func80, Tryz.ntmps80
    go_wp2_with fail
    go_ret
    exact ⟨-1, rfl, .inl rfl, Fr.refl w⟩

structure InSc (w : World) (s : Sv) : Prop where
  ig : I64 s.g
  ml : s.ll ≤ 9223372036854775807
  mc : s.cl ≤ 9223372036854775807
  mn : s.nl ≤ 9223372036854775807
  mo : s.ol ≤ 9223372036854775807
  lks : s.ll ≤ 1048576 → ∃ lvs : List Lv, lvs.length = s.ll ∧ ReadsG layL w s.lo lvs ∧ ∀ lv ∈ lvs, lv.rn ≤ 9223372036854775807 ∧ I64 lv.o ∧ I64 lv.wr ∧ (lv.ro = none → lv.rc = 0) ∧ (lv.rn ≤ 1048576 → ∃ rd, rd.length = lv.rn ∧ Reads w lv.ro rd)
  chs : s.cl ≤ 1048576 → ∃ cs : List Ch, cs.length = s.cl ∧ ReadsG layC w s.co cs ∧ ∀ c ∈ cs, I64 c.o ∧ I64 c.cap ∧ I64 c.sent ∧ I64 c.got
  cts : s.nl ≤ 1048576 → ∃ cs : List Ct, cs.length = s.nl ∧ ReadsG layN w s.no cs ∧ ∀ c ∈ cs, I64 c.o ∧ I64 c.n
  ons : s.ol ≤ 1048576 → ∃ xs : List Int, xs.length = s.ol ∧ Reads w s.oo xs
  zo : s.oo = none → s.oc = 0
theorem InSc.fr {w w' : World} {s : Sv} (h : InSc w s) (f : Fr w w') : InSc w' s :=
  { h with
    lks := fun q => by
      obtain ⟨lvs, e1, r1, p1⟩ := h.lks q
      refine ⟨lvs, e1, r1.fr f, fun lv hlv => ?_⟩
      obtain ⟨q1, q2, q3, q4, q5⟩ := p1 lv hlv
      refine ⟨q1, q2, q3, q4, fun hq => ?_⟩
      obtain ⟨rd, e2, r2⟩ := q5 hq
      exact ⟨rd, e2, r2.fr f⟩
    chs := fun q => by
      obtain ⟨cs, e1, r1, p1⟩ := h.chs q
      exact ⟨cs, e1, r1.fr f, p1⟩
    cts := fun q => by
      obtain ⟨cs, e1, r1, p1⟩ := h.cts q
      exact ⟨cs, e1, r1.fr f, p1⟩
    ons := fun q => by
      obtain ⟨xs, e1, r1⟩ := h.ons q
      exact ⟨xs, e1, r1.fr f⟩ }
theorem lvs_model {w : World} (lvs : List Lv) (h : ∀ lv ∈ lvs, I64 lv.o ∧ I64 lv.wr ∧ (lv.ro = none → lv.rc = 0) ∧ lv.rn ≤ 1048576 ∧ ∃ rd, rd.length = lv.rn ∧ Reads w lv.ro rd) : ∃ ls, LksR (fun _ => True) w lvs ls := by
  induction lvs with
  | nil => exact ⟨[], LksR.nil _ _⟩
  | cons lv lvs ih =>
    obtain ⟨ls, hl⟩ := ih (fun x hx => h x (List.mem_cons_of_mem _ hx))
    obtain ⟨h1, h2, h3, h4, rd, h5, h6⟩ := h lv (List.mem_cons_self ..)
    refine ⟨⟨lv.o, lv.wr, rd⟩ :: ls, by simp [hl.len], fun j hj1 hj2 => ?_⟩
    cases j with
    | zero => exact ⟨rfl, rfl, h5.symm, h6, fun _ _ => trivial, h3, by show rd.length ≤ _; omega, h1, h2⟩
    | succ j => exact hl.at_ j (by simpa using hj1) (by simpa using hj2)
theorem InSc.small {w : World} {s : Sv} (h : InSc w s) (lvs : List Lv) (hl : lvs.length = s.ll) (hl2 : lvs.length ≤ 1048576) (hr : ReadsG layL w s.lo lvs) (hs : ∀ lv ∈ lvs, lv.rn ≤ 1048576) (hc : s.cl ≤ 1048576) (hn : s.nl ≤ 1048576) (ho : s.ol ≤ 1048576) : ∃ m : Scn, ScR (fun _ => True) w s m := by
  obtain ⟨lv2, e1, r1, p1⟩ := h.lks (by omega)
  have el : lvs = lv2 := by
    apply List.ext_getElem (by omega)
    intro j h1 h2
    obtain ⟨b, off, e, d0, d1, d2⟩ := lv_at hr j h1
    obtain ⟨b', off', e', x0, x1, x2⟩ := lv_at r1 j h2
    rw [e] at e'
    simp only [Option.some.injEq, Addr.mk.injEq, and_true] at e'
    obtain ⟨rfl, rfl⟩ := e'
    rw [d0] at x0; rw [d1] at x1; rw [d2] at x2
    simp only [Option.some.injEq, Value.int.injEq, Value.slice.injEq, true_and] at x0 x1 x2
    revert x0 x1 x2
    generalize lvs[j] = a
    generalize lv2[j] = c
    intro x0 x1 x2
    obtain ⟨a1, a2, a3, a4, a5⟩ := a
    obtain ⟨c1, c2, c3, c4, c5⟩ := c
    simp only at x0 x1 x2
    obtain ⟨y1, y2, y3⟩ := x2
    subst x0 x1 y1 y2 y3
    rfl
  obtain ⟨ls, hL⟩ := lvs_model (w := w) lvs (fun lv hlv => by
    have q := p1 lv (by rw [← el]; exact hlv)
    exact ⟨q.2.1, q.2.2.1, q.2.2.2.1, hs lv hlv, q.2.2.2.2 (hs lv hlv)⟩)
  obtain ⟨cs, e2, r2, p2⟩ := h.chs hc
  obtain ⟨gs, e3, r3, p3⟩ := h.cts hn
  obtain ⟨os, e4, r4⟩ := h.ons ho
  exact ⟨⟨s.g, ls, cs, gs, os⟩, { g := rfl, ig := h.ig, lks := ⟨lvs, hr, hl.symm, hL⟩, chs := r2, cl := e2.symm, cts := r3, nl := e3.symm, ons := r4, ol := e4.symm, bl := fun _ _ => trivial, bc := fun _ _ => trivial, bn := fun _ _ => trivial, bo := fun _ _ => trivial, zo := h.zo, sl := by have := hL.len; show ls.length ≤ _; omega, sc := by show cs.length ≤ _; omega, sn := by show gs.length ≤ _; omega, so := by show os.length ≤ _; omega, ic := p2, inn := p3 }⟩

set_option maxHeartbeats 1000000 in
theorem szScene_any (s : Sv) (w : World) (h : InSc w s) :
    Calls Tryz.prog 31 #[.agg #[.int .i64 s.g, .slice s.lo s.ll s.lc, .slice s.co s.cl s.cc, .slice s.no s.nl s.nc, .slice s.oo s.ol s.oc], .int .i64 1048576] w fun e w' => ∃ r : Int, e = .returned (.int .i64 r) ∧ (r = -1 ∨ (0 ≤ r ∧ ∃ m : Scn, ScR (fun _ => True) w s m)) ∧ Fr w w' := by
  have fW := Fr.alloc w (.cells #[.int .i64 s.g, .slice s.lo s.ll s.lc, .slice s.co s.cl s.cc, .slice s.no s.nl s.nc, .slice s.oo s.ol s.oc] 54)
  have ka := argB w s
  have cL := szLockS_any s.lo s.ll s.lc (w.alloc (.cells #[.int .i64 s.g, .slice s.lo s.ll s.lc, .slice s.co s.cl s.cc, .slice s.no s.nl s.nc, .slice s.oo s.ol s.oc] 54)) h.ml (fun q => by
    obtain ⟨lvs, e1, r1, p1⟩ := h.lks q
    exact ⟨lvs, e1, r1.fr fW, fun lv hlv => (p1 lv hlv).1⟩)
  have HI : Hid (InSc w s) := h
  have hc := h.mc
  have hn := h.mn
  have ho := h.mo
  have HL : Hid (∀ lvs : List Lv, lvs.length = s.ll → lvs.length ≤ 1048576 → ReadsG layL (w.alloc (.cells #[.int .i64 s.g, .slice s.lo s.ll s.lc, .slice s.co s.cl s.cc, .slice s.no s.nl s.nc, .slice s.oo s.ol s.oc] 54)) s.lo lvs → (∀ lv ∈ lvs, lv.rn ≤ 1048576) → s.cl ≤ 1048576 → s.nl ≤ 1048576 → s.ol ≤ 1048576 → ∃ m : Scn, ScR (fun _ => True) w s m) := by
    intro lvs e1 e2 e3 e4 e5 e6 e7
    obtain ⟨lv2, x1, x2, x3⟩ := h.lks (by omega)
    have el : lvs = lv2 := by
      apply List.ext_getElem (by omega)
      intro j h1 h2
      obtain ⟨b, off, e, d0, d1, d2⟩ := lv_at e3 j h1
      obtain ⟨b', off', e', y0, y1, y2⟩ := lv_at (x2.fr fW) j h2
      rw [e] at e'
      simp only [Option.some.injEq, Addr.mk.injEq, and_true] at e'
      obtain ⟨rfl, rfl⟩ := e'
      rw [d0] at y0; rw [d1] at y1; rw [d2] at y2
      simp only [Option.some.injEq, Value.int.injEq, Value.slice.injEq, true_and] at y0 y1 y2
      revert y0 y1 y2
      generalize lvs[j] = a
      generalize lv2[j] = c
      intro y0 y1 y2
      obtain ⟨a1, a2, a3, a4, a5⟩ := a
      obtain ⟨c1, c2, c3, c4, c5⟩ := c
      simp only at y0 y1 y2
      obtain ⟨z1, z2, z3⟩ := y2
      subst y0 y1 z1 z2 z3
      rfl
    subst el
    exact h.small lvs e1 e2 x2 e4 e5 e6 e7
  clear h
  obtain ⟨sg, lo, ll, lc, co, cl, cc, no, nl, nc, oo, ol, oc⟩ := s
  simp only at fW ka cL hc hn ho HL ⊢
  go_enter Tryz.func31, Tryz.ntmps31
  go_wp2_with fail
  obtain ⟨W, hW⟩ : ∃ W, W = w.alloc (.cells #[.int .i64 sg, .slice lo ll lc, .slice co cl cc, .slice no nl nc, .slice oo ol oc] 54) := ⟨_, rfl⟩
  rw [← hW] at fW ka cL ⊢
  simp only [← hW] at HL
  clear hW
  refine cL.mono ?_
  rintro x u1 ⟨r, rfl, hr, f1⟩
  clear cL
  rcases hr with rfl | ⟨r0, r1, lvs, e1, e2, e3, e4⟩
  · go_wp2_with fail
    go_ret
    exact ⟨-1, rfl, .inl rfl, fW.trans f1⟩
  have HL : Hid (cl ≤ 1048576 → nl ≤ 1048576 → ol ≤ 1048576 → ∃ m : Scn, ScR (fun _ => True) w ⟨sg, lo, ll, lc, co, cl, cc, no, nl, nc, oo, ol, oc⟩ m) := HL.out lvs e1 e2 e3 e4
  clear e1 e2 e3 e4
  obtain ⟨a0, a1, a2, a3, a4⟩ := ka.keep f1 (by simp)
  simp only at a0 a1 a2 a3 a4
  go_wp2_with fail
  refine (szChanS_any _ _ _ r _ hc r0 r1).mono ?_
  rintro e y ⟨rfl, rfl⟩
  by_cases h1 : (cl : Int) ≤ r
  · rw [if_pos h1]
    obtain ⟨r2, hr2⟩ : ∃ r2, r2 = r - (cl : Int) := ⟨_, rfl⟩
    have p0 : 0 ≤ r2 := by omega
    have p1 : r2 ≤ 1048576 := by omega
    rw [← hr2]
    clear hr2
    go_wp2_with fail
    refine (szCountS_any _ _ _ r2 _ hn p0 p1).mono ?_
    rintro e y ⟨rfl, rfl⟩
    by_cases h2 : (nl : Int) ≤ r2
    · rw [if_pos h2]
      obtain ⟨r3, hr3⟩ : ∃ r3, r3 = r2 - (nl : Int) := ⟨_, rfl⟩
      have q0 : 0 ≤ r3 := by omega
      have q1 : r3 ≤ 1048576 := by omega
      rw [← hr3]
      clear hr3
      go_wp2_with fail
      refine (szInt64S_any _ _ _ r3 _ ho q0 q1).mono ?_
      rintro e y ⟨rfl, rfl⟩
      by_cases h3 : (ol : Int) ≤ r3
      · rw [if_pos h3]
        obtain ⟨r4, hr4⟩ : ∃ r4, r4 = r3 - (ol : Int) := ⟨_, rfl⟩
        have w0 : 0 ≤ r4 := by omega
        have HM := HL.out (by omega) (by omega) (by omega)
        have HM : Hid _ := HM
        rw [← hr4]
        clear hr4
        go_wp2_with fail
        go_ret
        exact ⟨r4, rfl, .inr ⟨w0, HM.out⟩, fW.trans f1⟩
      · rw [if_neg h3]
        go_wp2_with fail
        go_ret
        exact ⟨-1, rfl, .inl rfl, fW.trans f1⟩
    · rw [if_neg h2]
      go_wp2_with fail
      go_ret
      exact ⟨-1, rfl, .inl rfl, fW.trans f1⟩
  · rw [if_neg h1]
    go_wp2_with fail
    go_ret
    exact ⟨-1, rfl, .inl rfl, fW.trans f1⟩
end Go.Proofs.YtplnijpolkflcaaGreatDoor
