/-
  Pack AD: ScInts.
-/
import Derived.Test.YtcofhmikdkkigaaGreatDoorPfAC
import Derived.Test.YtcofhmikdkkigaaGreatDoorPfAA
namespace Go.Proofs.YtcofhmikdkkigaaGreatDoor
open Go.RowKit

theorem l4Obj_any (x : Int) (w : World) :
    Calls Tryz.prog 63 #[.int .i64 x] w fun e w' => e = .returned (.bool (inB 0 15 x)) ∧ w' = w := by
  go_enter Tryz.func63, Tryz.ntmps63
  go_wp2_with (go_at_call 60; refine (l1In_any _ _ _ _).mono ?_; rintro e w' ⟨rfl, rfl⟩)
  go_ret
  exact ⟨rfl, rfl⟩

def memB (xs : List Int) (x : Int) : Bool := xs.any (· == x)
theorem memB_yes {xs : List Int} {x : Int} {k : Nat} (hk : k < xs.length) (h : xs[k] = x) : memB xs x = true := by
  rw [memB, List.any_eq_true]
  exact ⟨xs[k], List.getElem_mem hk, by simp [h]⟩
theorem memB_no {xs : List Int} {x : Int} (h : ∀ j, j < xs.length → xs.getD j 0 ≠ x) : memB xs x = false := by
  rw [memB, List.any_eq_false]
  intro y hy
  obtain ⟨j, hj, rfl⟩ := List.mem_iff_getElem.1 hy
  have := h j hj
  rw [getD_at hj] at this
  simpa using this

set_option maxHeartbeats 400000 in
theorem l4In_any (ao : Option Addr) (n cap : Nat) (xs : List Int) (x : Int) (w : World) (hn : xs.length = n) (h : Reads w ao xs) :
    Calls Tryz.prog 58 #[.slice ao n cap, .int .i64 x] w fun e w' => e = .returned (.bool (memB xs x)) ∧ w' = w := by
  subst hn
  have hl := h.len
  go_enter Tryz.func58, Tryz.ntmps58
  go_wp2
  go_loop [5] (fun i => ∃ k : Nat, k ≤ xs.length ∧ i = .int .i64 k ∧ Hid (∀ j, j < k → xs.getD j 0 ≠ x)) (fun i => xs.length - (intOf i).toNat)
  case atStart => exact ⟨0, Nat.zero_le _, rfl, fun j hj => by omega⟩
  case round =>
    obtain ⟨k, hk, rfl, HA⟩ := hrel
    by_cases hlt : k < xs.length
    · obtain ⟨b, off, rfl, hc⟩ := h.at_ k hlt
      have hck := hc k hlt
      rw [getD_at hlt] at hck
      clear hc
      by_cases he : xs[k] = x
      · have hb : (xs[k] == x) = true := beq_iff_eq.2 he
        have HE : Hid (memB xs x = true) := memB_yes hlt he
        clear he
        go_wp2
        go_ret
        exact ⟨ret_bool HE.out.symm, rfl⟩
      · have hb : (xs[k] == x) = false := beq_eq_false_iff_ne.2 he
        have HE : Hid (xs[k] ≠ x) := he
        clear he
        go_wp2
        go_round
        case rel =>
          refine ⟨k + 1, by omega, by go_num, fun j hj => ?_⟩
          by_cases e : j = k
          · subst e; rw [getD_at hlt]; exact HE.out
          · exact HA.out j (by omega)
        case measure => simp [intOf]; omega
    · have HN : Hid (memB xs x = false) := memB_no (fun j hj => HA.out j (by omega))
      go_wp2
      go_ret
      exact ⟨ret_bool HN.out.symm, rfl⟩

def outL (xs : List Int) (x : Int) : List Int := xs.filter fun y => !(y == x)
theorem outL_yes (xs : List Int) (x : Int) (k : Nat) (hk : k < xs.length) (h : (xs[k] == x) = false) : outL (xs.take (k + 1)) x = outL (xs.take k) x ++ [xs[k]] := by
  rw [outL, List.take_succ_eq_append_getElem hk, List.filter_append]
  simp [outL, h]
theorem outL_no (xs : List Int) (x : Int) (k : Nat) (hk : k < xs.length) (h : (xs[k] == x) = true) : outL (xs.take (k + 1)) x = outL (xs.take k) x := by
  rw [outL, List.take_succ_eq_append_getElem hk, List.filter_append]
  simp [outL, h]
theorem outL_len (xs : List Int) (x : Int) : (outL xs x).length ≤ xs.length := List.length_filter_le _ _

set_option maxHeartbeats 800000 in
theorem l4Without_any (ao : Option Addr) (n cap : Nat) (xs : List Int) (x : Int) (w : World) (hn : xs.length = n) (h : Reads w ao xs) (hl : xs.length ≤ 4294967000) :
    Calls Tryz.prog 167 #[.slice ao n cap, .int .i64 x] w fun e w' => ∃ v, e = .returned v ∧ OwnS w' w.heap.size v (outL xs x) ∧ Fr w w' := by
  subst hn
  go_enter Tryz.func167, Tryz.ntmps167
  go_wp2_with fail
  go_loopw [5, 6] (fun u i wr => ∃ k : Nat, k ≤ xs.length ∧ i = .int .i64 k ∧ OwnS wr w.heap.size u (outL (xs.take k) x) ∧ Fr w wr) (fun _ i _ => xs.length - (intOf i).toNat)
  case atStart => exact ⟨0, Nat.zero_le _, rfl, own_empty w _ (Nat.le_refl _), Fr.alloc w _⟩
  case round =>
    obtain ⟨k, hk, rfl, ho, hf⟩ := hrel
    have hs := hf.size
    by_cases hlt : k < xs.length
    · obtain ⟨b, off, rfl, hc⟩ := (h.fr hf).at_ k hlt
      have hck := hc k hlt
      rw [getD_at hlt] at hck
      have hI := h.bd _ (List.getElem_mem hlt)
      have hll := outL_len (xs.take k) x
      have hlk : (xs.take k).length ≤ k := by simp; omega
      cases hb : (xs[k] == x)
      · have HN : Hid (outL (xs.take (k + 1)) x = outL (xs.take k) x ++ [xs[k]]) := outL_yes xs x k hlt hb
        obtain ⟨z, hz⟩ : ∃ z, z = xs[k] := ⟨_, rfl⟩
        rw [← hz] at hck hb HN hI
        clear hz hc
        have hm := reads_one wr z hI
        go_wp2_with (at_builtin; refine appI _ rfl _ _ rfl w.heap.size _ _ [z] rfl (ho.fr (Fr.alloc _ _)) _ _ _ rfl rfl (by simp) hm (by simp; omega) (by simp; omega) ?_; intro v1 w4 hv1 hg1)
        go_roundw
        case rel => exact ⟨k + 1, by omega, by go_num, by rw [HN.out]; exact hv1, (hf.trans (Fr.alloc _ _)).then hg1 ho.blk⟩
        case measure => simp [intOf]; omega
      · have HN : Hid (outL (xs.take (k + 1)) x = outL (xs.take k) x) := outL_no xs x k hlt hb
        obtain ⟨z, hz⟩ : ∃ z, z = xs[k] := ⟨_, rfl⟩
        rw [← hz] at hck hb
        clear hz hc
        go_wp2_with fail
        go_roundw
        case rel => exact ⟨k + 1, by omega, by go_num, by rw [HN.out]; exact ho, hf⟩
        case measure => simp [intOf]; omega
    · have et : k = xs.length := by omega
      subst et
      rw [List.take_length] at ho
      go_wp2_with fail
      go_ret
      exact ⟨_, rfl, ho, hf⟩

def inS (x : Int) (a : List Int × Bool) (y : Int) : List Int × Bool :=
  if !a.2 && decide (x < y) then (a.1 ++ [x] ++ [y], true) else (a.1 ++ [y], a.2)
def inP (xs : List Int) (x : Int) : List Int × Bool := xs.foldl (inS x) ([], false)
def withL (xs : List Int) (x : Int) : List Int := if (inP xs x).2 then (inP xs x).1 else (inP xs x).1 ++ [x]
theorem inP_step (xs : List Int) (x : Int) (k : Nat) (hk : k < xs.length) : inP (xs.take (k + 1)) x = inS x (inP (xs.take k) x) xs[k] := by
  rw [inP, List.take_succ_eq_append_getElem hk, List.foldl_append]
  rfl
theorem inS_len (x : Int) (a : List Int × Bool) (y : Int) : (inS x a y).1.length ≤ a.1.length + 2 := by
  unfold inS
  split <;> simp
theorem inP_len (xs : List Int) (x : Int) (k : Nat) (hk : k ≤ xs.length) : (inP (xs.take k) x).1.length ≤ 2 * k := by
  induction k with
  | zero => simp [inP]
  | succ k ih =>
    have := ih (by omega)
    have h2 := inS_len x (inP (xs.take k) x) (xs[k]'(by omega))
    rw [inP_step xs x k (by omega)]
    omega

theorem cell_at {w w1 w4 : World} {bl off k : Nat} {xs : List Int} {z : Int} (h : Reads w (some ⟨bl, off, none⟩) xs) (hk : k < xs.length) (f : Fr w w4) (hc : w1.cell? ⟨bl, off + k, none⟩ = some (.int .i64 z)) (f1 : Fr w w1) : w4.cell? ⟨bl, off + k, none⟩ = some (.int .i64 z) := by
  obtain ⟨b, o, e, hh⟩ := h.at_ k hk
  simp only [Option.some.injEq, Addr.mk.injEq, and_true] at e
  obtain ⟨rfl, rfl⟩ := e
  have h0 := hh k hk
  have := f1.cell h0
  rw [hc] at this
  rw [f.cell h0, this]

set_option maxRecDepth 20000 in
set_option maxHeartbeats 1000000 in
theorem l4With_any (ao : Option Addr) (n cap : Nat) (xs : List Int) (x : Int) (w : World) (hn : xs.length = n) (hx : I64 x) (h : Reads w ao xs) (hl : xs.length ≤ 2000000000) :
    Calls Tryz.prog 166 #[.slice ao n cap, .int .i64 x] w fun e w' => ∃ v, e = .returned v ∧ OwnS w' w.heap.size v (withL xs x) ∧ Fr w w' := by
  subst hn
  go_enter Tryz.func166, Tryz.ntmps166
  go_wp2_with fail
  go_loopw [5, 6, 7] (fun u q i wr => ∃ (k : Nat) (ys : List Int) (b : Bool), k ≤ xs.length ∧ i = .int .i64 k ∧ q = .bool b ∧ Hid (inP (xs.take k) x = (ys, b)) ∧ ys.length ≤ 2 * k ∧ OwnS wr w.heap.size u ys ∧ Fr w wr) (fun _ _ i _ => xs.length - (intOf i).toNat)
  case atStart => exact ⟨0, [], false, Nat.zero_le _, rfl, rfl, rfl, by simp, own_empty w _ (Nat.le_refl _), Fr.alloc w _⟩
  case round =>
    obtain ⟨k, ys, b, hk, rfl, rfl, HP, hyl, ho, hf⟩ := hrel
    have hs := hf.size
    by_cases hlt : k < xs.length
    · obtain ⟨bl, off, rfl, hc⟩ := (h.fr hf).at_ k hlt
      have hck := hc k hlt
      rw [getD_at hlt] at hck
      have hI := h.bd _ (List.getElem_mem hlt)
      have HS : Hid (inP (xs.take (k + 1)) x = inS x (ys, b) xs[k]) := by
        show inP (xs.take (k + 1)) x = inS x (ys, b) xs[k]
        rw [inP_step xs x k hlt, HP.out]
      obtain ⟨z, hz⟩ : ∃ z, z = xs[k] := ⟨_, rfl⟩
      rw [← hz] at hck HS hI
      clear hz hc HP
      have hm := reads_one wr z hI
      cases b
      · by_cases hxz : x < z
        · have HN : Hid (inP (xs.take (k + 1)) x = (ys ++ [x] ++ [z], true)) := by
            show inP (xs.take (k + 1)) x = (ys ++ [x] ++ [z], true)
            rw [HS.out]; simp [inS, hxz]
          clear HS
          have hm1 := reads_one wr x hx
          have hbk := ho.blk
          clear hm
          go_wp2_with (at_builtin; first | (refine appI _ rfl _ _ rfl w.heap.size _ _ [x] rfl (ho.fr (Fr.alloc _ _)) _ _ _ rfl rfl (by simp) hm1 (by simp; omega) (by simp; omega) ?_; intro v1 w4 hv1 hg1; have f4 := (hf.trans (Fr.alloc wr (.cells #[.int .i64 x] 2))).then hg1 hbk; have hck4 := cell_at h hlt f4 hck hf; have hm4 := reads_one w4 z hI; have s4 := f4.size; clear hg1 hm1 hck) | (refine appI _ rfl _ _ rfl w.heap.size _ _ [z] rfl (hv1.fr (Fr.alloc _ _)) _ _ _ rfl rfl (by simp) hm4 (by simp; omega) (by simp; omega) ?_; intro v5 w5 hv5 hg5))
          go_roundw
          case rel => exact ⟨k + 1, _, _, by omega, by go_num, rfl, HN, by simp; omega, hv5, (f4.trans (Fr.alloc _ _)).then hg5 hv1.blk⟩
          case measure => simp [intOf]; omega
        · have HN : Hid (inP (xs.take (k + 1)) x = (ys ++ [z], false)) := by
            show inP (xs.take (k + 1)) x = (ys ++ [z], false)
            rw [HS.out]; simp [inS, hxz]
          clear HS
          have hxz : z ≤ x := by omega
          go_wp2_with (at_builtin; refine appI _ rfl _ _ rfl w.heap.size _ _ [z] rfl (ho.fr (Fr.alloc _ _)) _ _ _ rfl rfl (by simp) hm (by simp; omega) (by simp; omega) ?_; intro v1 w4 hv1 hg1)
          go_roundw
          case rel => exact ⟨k + 1, _, _, by omega, by go_num, rfl, HN, by simp; omega, hv1, (hf.trans (Fr.alloc _ _)).then hg1 ho.blk⟩
          case measure => simp [intOf]; omega
      · have HN : Hid (inP (xs.take (k + 1)) x = (ys ++ [z], true)) := by
          show inP (xs.take (k + 1)) x = (ys ++ [z], true)
          rw [HS.out]; simp [inS]
        clear HS
        go_wp2_with (at_builtin; refine appI _ rfl _ _ rfl w.heap.size _ _ [z] rfl (ho.fr (Fr.alloc _ _)) _ _ _ rfl rfl (by simp) hm (by simp; omega) (by simp; omega) ?_; intro v1 w4 hv1 hg1)
        go_roundw
        case rel => exact ⟨k + 1, _, _, by omega, by go_num, rfl, HN, by simp; omega, hv1, (hf.trans (Fr.alloc _ _)).then hg1 ho.blk⟩
        case measure => simp [intOf]; omega
    · have et : k = xs.length := by omega
      subst et
      rw [List.take_length] at HP
      cases b
      · have HN : Hid (withL xs x = ys ++ [x]) := by
          show withL xs x = ys ++ [x]
          rw [withL, HP.out]; rfl
        have hm1 := reads_one wr x hx
        go_wp2_with (at_builtin; refine appI _ rfl _ _ rfl w.heap.size _ _ [x] rfl (ho.fr (Fr.alloc _ _)) _ _ _ rfl rfl (by simp) hm1 (by simp; omega) (by simp; omega) ?_; intro v1 w4 hv1 hg1)
        go_ret
        exact ⟨_, rfl, by rw [HN.out]; exact hv1, (hf.trans (Fr.alloc _ _)).then hg1 ho.blk⟩
      · have HN : Hid (withL xs x = ys) := by
          show withL xs x = ys
          rw [withL, HP.out]; rfl
        go_wp2_with fail
        go_ret
        exact ⟨_, rfl, by rw [HN.out]; exact ho, hf⟩
end Go.Proofs.YtcofhmikdkkigaaGreatDoor
