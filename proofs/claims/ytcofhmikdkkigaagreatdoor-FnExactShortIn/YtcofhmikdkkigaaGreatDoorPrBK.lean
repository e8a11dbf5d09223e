/-
  Pack BK: EvsEq, EvsMark, IntsEq, IntsMark, LawBef.
-/
import Derived.Test.YtcofhmikdkkigaaGreatDoorPrAU
import Derived.Test.YtcofhmikdkkigaaGreatDoorPrAA
import Derived.Test.YtcofhmikdkkigaaGreatDoorPrBD
namespace Go.Proofs.YtcofhmikdkkigaaGreatDoor
open Go.RowKit

set_option maxHeartbeats 1000000 in
theorem eqEv_same (e : Ev) (w : World) :
    Calls Tryz.prog 87 #[.agg #[.int .i64 e.k, .int .i64 e.g, .int .i64 e.o, .int .i64 e.w, .int .i64 e.l, .int .i64 e.s, .int .i64 e.f, .int .i64 e.t], .agg #[.int .i64 e.k, .int .i64 e.g, .int .i64 e.o, .int .i64 e.w, .int .i64 e.l, .int .i64 e.s, .int .i64 e.f, .int .i64 e.t]] w fun x w' => x = .returned (.bool true) ∧ Fr w w' := by
  obtain ⟨k, g, o, wi, l, sz, f, t⟩ := e
  simp only
  go_enter Tryz.func87, Tryz.ntmps87
  go_wp2_with fail
  go_ret
  exact ⟨rfl, (Fr.alloc _ _).trans (Fr.alloc _ _)⟩

set_option maxHeartbeats 2000000 in
theorem eqEs_same (ao bo : Option Addr) (n c d : Nat) (es : List Ev) (w : World) (hn : es.length = n) (h : ReadsE w ao es) (h' : ReadsE w bo es) :
    Calls Tryz.prog 36 #[.slice ao n c, .slice bo n d] w fun e w' => e = .returned (.bool true) ∧ Fr w w' := by
  subst hn
  have hl := h.len
  go_enter Tryz.func36, Tryz.ntmps36
  go_wp2_with fail
  go_loopw [5] (fun i wr => ∃ k : Nat, k ≤ es.length ∧ i = .int .i64 k ∧ Fr w wr) (fun i _ => es.length - (intOf i).toNat)
  case atStart => exact ⟨0, Nat.zero_le _, rfl, Fr.refl _⟩
  case round =>
    obtain ⟨k, hk, rfl, hf⟩ := hrel
    by_cases hlt : k < es.length
    · obtain ⟨b, off, rfl, hc⟩ := (h.fr hf).at_ k hlt
      obtain ⟨b', off', rfl, hc'⟩ := (h'.fr hf).at_ k hlt
      have hk1 := hc k hlt
      have hk2 := hc' k hlt
      obtain ⟨e, he⟩ : ∃ e, e = es[k] := ⟨_, rfl⟩
      rw [← he] at hk1 hk2
      clear hc hc' he
      have cE := fun w => eqEv_same e w
      have := Later.some wr
      have p0 := fun s : Later wr => s.fr.cell hk1.c0
      have p1 := fun s : Later wr => s.fr.cell hk1.c1
      have p2 := fun s : Later wr => s.fr.cell hk1.c2
      have p3 := fun s : Later wr => s.fr.cell hk1.c3
      have p4 := fun s : Later wr => s.fr.cell hk1.c4
      have p5 := fun s : Later wr => s.fr.cell hk1.c5
      have p6 := fun s : Later wr => s.fr.cell hk1.c6
      have p7 := fun s : Later wr => s.fr.cell hk1.c7
      have r0 := fun s : Later wr => s.fr.cell hk2.c0
      have r1 := fun s : Later wr => s.fr.cell hk2.c1
      have r2 := fun s : Later wr => s.fr.cell hk2.c2
      have r3 := fun s : Later wr => s.fr.cell hk2.c3
      have r4 := fun s : Later wr => s.fr.cell hk2.c4
      have r5 := fun s : Later wr => s.fr.cell hk2.c5
      have r6 := fun s : Later wr => s.fr.cell hk2.c6
      have r7 := fun s : Later wr => s.fr.cell hk2.c7
      clear hk1 hk2
      go_wp2_with fail
      refine wp_region_grown (by kernel_rfl) (by kernel_rfl) ?_
      repeat (go_big_quiet_step (with_reducible exact Calls.grown_of (cE _)))
      refine wpQuiet_nil ?_
      rintro _ ⟨s, rfl⟩
      go_wp2_with fail
      go_roundw
      case rel => exact ⟨k + 1, by omega, by go_num, hf.trans s.fr⟩
      case measure => simp [intOf]; omega
    · go_wp2_with fail
      go_ret
      exact ⟨rfl, hf⟩
end Go.Proofs.YtcofhmikdkkigaaGreatDoor
namespace Go.Proofs.YtcofhmikdkkigaaGreatDoor
open Go.RowKit

def upE (c : Int) : Ev := ⟨c, c + 1, c + 1 + 1, c + 1 + 1 + 1, c + 1 + 1 + 1 + 1, c + 1 + 1 + 1 + 1 + 1, c + 1 + 1 + 1 + 1 + 1 + 1, c + 1 + 1 + 1 + 1 + 1 + 1 + 1⟩
def upsE (q : Int) (n : Nat) : List Ev := (List.range n).map fun j : Nat => upE (q + 8 * (j : Int))
theorem upsE_length (q : Int) (n : Nat) : (upsE q n).length = n := by simp [upsE]
theorem upsE_succ (q : Int) (n : Nat) : upsE q (n + 1) = upsE q n ++ [upE (q + 8 * (n : Int))] := by simp [upsE, List.range_succ]
theorem upsE_at (q : Int) (n j : Nat) (h : j < (upsE q n).length) : (upsE q n)[j] = upE (q + 8 * (j : Int)) := by simp [upsE]

theorem marked_step (D : List Ev) (M : List Value) (k n : Nat) (hD : D.length = k) (hk : k < n) (hM : M.length = n * 8) (e : Ev) :
    ((((((((D.flatMap evCells ++ M.drop (k * 8)).set (k * 8) (.int .i64 e.k)).set (k * 8 + 1) (.int .i64 e.g)).set (k * 8 + 2) (.int .i64 e.o)).set (k * 8 + 3) (.int .i64 e.w)).set (k * 8 + 4) (.int .i64 e.l)).set (k * 8 + 5) (.int .i64 e.s)).set (k * 8 + 6) (.int .i64 e.f)).set (k * 8 + 7) (.int .i64 e.t)
      = (D ++ [e]).flatMap evCells ++ M.drop ((k + 1) * 8) := by
  obtain ⟨m0, m1, m2, m3, m4, m5, m6, m7, hd⟩ := drop8 M (k * 8) (by omega)
  have hl : (D.flatMap evCells).length = k * 8 := by rw [cells_len, hD]
  rw [hd, set8 _ _ _ _ _ _ _ _ _ _ _ _ _ _ _ _ _ _ _ hl, show (k + 1) * 8 = k * 8 + 8 by omega, List.flatMap_append]
  simp [evCells]

set_option maxHeartbeats 2000000 in
theorem markEs_any (g n cap base : Nat) (q : Int) (es : List Ev) (w : World) (hn : es.length = n) (q0 : 0 ≤ q) (q1 : q ≤ 4294967296) (h : w.ownsRow base 31 8 (.slice (some ⟨g, 0, none⟩) n cap) n (es.flatMap evCells)) (hl : n ≤ 16777216) :
    Calls Tryz.prog 37 #[.slice (some ⟨g, 0, none⟩) n cap, .int .i64 q] w fun e w' => e = .returned (.int .i64 (q + 8 * (n : Int))) ∧ w'.ownsRow base 31 8 (.slice (some ⟨g, 0, none⟩) n cap) n ((upsE q n).flatMap evCells) ∧ w.grownBy w' (some g) := by
  obtain ⟨M, hM⟩ : ∃ M, M = es.flatMap evCells := ⟨_, rfl⟩
  have hMl : M.length = n * 8 := by rw [hM, cells_len, hn]
  rw [← hM] at h
  clear hM hn
  go_enter Tryz.func37, Tryz.ntmps37
  go_wp2_with fail
  go_loopw [1, 5] (fun c i wr => ∃ k : Nat, k ≤ n ∧ i = .int .i64 k ∧ c = .int .i64 (q + 8 * (k : Int)) ∧ wr.ownsRow base 31 8 (.slice (some ⟨g, 0, none⟩) n cap) n ((upsE q k).flatMap evCells ++ M.drop (k * 8)) ∧ w.grownBy wr (some g)) (fun _ i _ => n - (intOf i).toNat)
  case atStart => exact ⟨0, Nat.zero_le _, rfl, by simp, by simpa [upsE] using h, ⟨rfl, rfl, rfl, Nat.le_refl _, fun _ _ _ => rfl⟩⟩
  case round =>
    obtain ⟨k, hk, rfl, rfl, ho, hf⟩ := hrel
    by_cases hlt : k < n
    · have hll : ((upsE q k).flatMap evCells ++ M.drop (k * 8)).length = n * 8 := ho.1
      have hat : ∀ i, i < 8 → ∃ u, wr.cell? ⟨g, k * 8 + i, none⟩ = some u := fun i hi => by
        rw [ho.cellAt (k * 8 + i) (by omega)]
        exact ⟨_, List.getElem?_eq_getElem (by omega)⟩
      obtain ⟨p0, d0⟩ := hat 0 (by omega)
      obtain ⟨p1, d1⟩ := hat 1 (by omega)
      obtain ⟨p2, d2⟩ := hat 2 (by omega)
      obtain ⟨p3, d3⟩ := hat 3 (by omega)
      obtain ⟨p4, d4⟩ := hat 4 (by omega)
      obtain ⟨p5, d5⟩ := hat 5 (by omega)
      obtain ⟨p6, d6⟩ := hat 6 (by omega)
      obtain ⟨p7, d7⟩ := hat 7 (by omega)
      rw [Nat.add_zero] at d0
      have z0 := ho.frozenAt (k * 8)
      have z1 := ho.frozenAt (k * 8 + 1)
      have z2 := ho.frozenAt (k * 8 + 2)
      have z3 := ho.frozenAt (k * 8 + 3)
      have z4 := ho.frozenAt (k * 8 + 4)
      have z5 := ho.frozenAt (k * 8 + 5)
      have z6 := ho.frozenAt (k * 8 + 6)
      have z7 := ho.frozenAt (k * 8 + 7)
      have hst := own8 ho (k * 8) (.int .i64 (upE (q + 8 * (k : Int))).k) (.int .i64 (upE (q + 8 * (k : Int))).g) (.int .i64 (upE (q + 8 * (k : Int))).o) (.int .i64 (upE (q + 8 * (k : Int))).w) (.int .i64 (upE (q + 8 * (k : Int))).l) (.int .i64 (upE (q + 8 * (k : Int))).s) (.int .i64 (upE (q + 8 * (k : Int))).f) (.int .i64 (upE (q + 8 * (k : Int))).t)
      rw [marked_step (upsE q k) M k n (upsE_length q k) hlt hMl, ← upsE_succ] at hst
      simp only [upE] at hst
      clear hat hll ho h
      go_wp2_with fail
      refine ⟨⟨k + 1, by omega, by go_num, ?_, hst.1, grown_tr hf hst.2⟩, ?_⟩
      · congr 1; push_cast; omega
      · simp only [intOf]; omega
    · have ek : k = n := by omega
      have hd : M.drop (k * 8) = [] := List.drop_eq_nil_of_le (by rw [hMl, ek]; omega)
      rw [hd, List.append_nil, ek] at ho
      have HK : Hid (k = n) := ek
      clear ek hd
      go_wp2_with fail
      go_ret
      refine ⟨?_, ho, hf⟩
      have := HK.out
      exact ret_int (by omega)

end Go.Proofs.YtcofhmikdkkigaaGreatDoor
namespace Go.Proofs.YtcofhmikdkkigaaGreatDoor
open Go.RowKit

set_option maxHeartbeats 400000 in
theorem eqI_any (ao bo : Option Addr) (n m c d : Nat) (xs ys : List Int) (w : World) (hn : xs.length = n) (hm : ys.length = m) (h : Reads w ao xs) (h' : Reads w bo ys) :
    Calls Tryz.prog 35 #[.slice ao n c, .slice bo m d] w fun e w' => e = .returned (.bool (decide (xs = ys))) ∧ ∃ nq, w' = w.drewN nq := by
  subst hn hm
  have hl := h.len
  by_cases hne : xs.length = ys.length
  · have hb : ((xs.length : Int) != (ys.length : Int)) = false := by simp [hne]
    have HNE : Hid (xs.length = ys.length) := hne
    clear hne
    go_enter Tryz.func35, Tryz.ntmps35
    go_wp2
    go_loopw [5] (fun i wr => ∃ k : Nat, k ≤ xs.length ∧ i = .int .i64 k ∧ Hid (xs.take k = ys.take k) ∧ ∃ nq, wr = w.drewN nq) (fun i _ => xs.length - (intOf i).toNat)
    case atStart => exact ⟨0, Nat.zero_le _, rfl, rfl, 0, rfl⟩
    case round =>
      obtain ⟨k, hk, rfl, HT, nq, rfl⟩ := hrel
      by_cases hlt : k < xs.length
      · have hlt' : k < ys.length := by have := HNE.out; omega
        obtain ⟨b, off, rfl, hc⟩ := h.at_ k hlt
        obtain ⟨b', off', rfl, hc'⟩ := h'.at_ k hlt'
        have hck := hc k hlt
        have hck' := hc' k hlt'
        rw [getD_at hlt] at hck
        rw [getD_at hlt'] at hck'
        clear hc hc' hb
        go_wp2
        go_quiet (fail)
        go_wp2
        · have hq : (xs[k] != ys[k]) = true := by assumption
          go_ret
          refine ⟨?_, _, drew2 _ _ _⟩
          rw [ne_of_at hlt hlt' (by simpa using hq)]
          rfl
        · have hq : (xs[k] != ys[k]) = false := by assumption
          go_roundw
          case rel => exact ⟨k + 1, by omega, by go_num, eq_step HNE.out hlt HT.out (by simpa using hq), _, rfl⟩
          case measure => simp [intOf]; omega
      · go_wp2
        go_ret
        refine ⟨?_, nq, rfl⟩
        have e : xs = ys := by
          have h1 := HT.out
          have h2 := HNE.out
          rwa [List.take_of_length_le (by omega), List.take_of_length_le (by omega)] at h1
        have : decide (xs = ys) = true := by simpa using e
        rw [this]
        rfl
  · have hb : ((xs.length : Int) != (ys.length : Int)) = true := by simp; omega
    go_enter Tryz.func35, Tryz.ntmps35
    go_wp2
    go_ret
    refine ⟨?_, 0, rfl⟩
    have : decide (xs = ys) = false := by simp only [decide_eq_false_iff_not]; intro e; exact hne (by rw [e])
    rw [this]
    rfl
end Go.Proofs.YtcofhmikdkkigaaGreatDoor
namespace Go.Proofs.YtcofhmikdkkigaaGreatDoor
open Go.RowKit

def ups (k : Int) (n : Nat) : List Int := (List.range n).map fun j : Nat => k + (j : Int)
theorem ups_length (k : Int) (n : Nat) : (ups k n).length = n := by simp [ups]
theorem ups_at (k : Int) (n j : Nat) (h : j < n) : (ups k n)[j]? = some (k + (j : Int)) := by simp [ups, h]

theorem mark_step (xs : List Int) (q : Int) (k : Nat) (h : k < xs.length) :
    (((ups q k) ++ xs.drop k).map (Value.int .i64)).set k (.int .i64 (q + (k : Int))) = ((ups q (k + 1)) ++ xs.drop (k + 1)).map (Value.int .i64) := by
  have e : ups q (k + 1) = ups q k ++ [q + (k : Int)] := by simp [ups, List.range_succ]
  rw [e, List.map_append, List.map_append, List.map_append, List.set_append_right _ _ (by simp [ups_length]), List.length_map, ups_length, Nat.sub_self, List.drop_eq_getElem_cons h, List.map_cons, List.set_cons_zero, List.append_assoc]
  rfl

set_option maxHeartbeats 400000 in
theorem mark_any (g n cap : Nat) (base : Nat) (q : Int) (xs : List Int) (w : World) (hn : xs.length = n) (q0 : 0 ≤ q) (q1 : q ≤ 4294967296) (h : OwnI w base (.slice (some ⟨g, 0, none⟩) n cap) xs) :
    Calls Tryz.prog 38 #[.slice (some ⟨g, 0, none⟩) n cap, .int .i64 q] w fun e w' => e = .returned (.int .i64 (q + (n : Int))) ∧ OwnI w' base (.slice (some ⟨g, 0, none⟩) n cap) (ups q n) ∧ w.grownBy w' (some g) := by
  subst hn
  obtain ⟨ho, hl, hb⟩ := h
  go_enter Tryz.func38, Tryz.ntmps38
  go_wp2
  go_loopw [1, 5] (fun c i wr => ∃ k : Nat, k ≤ xs.length ∧ i = .int .i64 k ∧ c = .int .i64 (q + (k : Int)) ∧ wr.ownsRow base 2 1 (.slice (some ⟨g, 0, none⟩) xs.length cap) xs.length (((ups q k) ++ xs.drop k).map (Value.int .i64)) ∧ w.grownBy wr (some g)) (fun _ i _ => xs.length - (intOf i).toNat)
  case atStart =>
    refine ⟨0, Nat.zero_le _, rfl, by simp, by simpa [ups] using ho, ⟨rfl, rfl, rfl, Nat.le_refl _, fun _ _ _ => rfl⟩⟩
  case round =>
    obtain ⟨k, hk, rfl, rfl, hr, hf⟩ := hrel
    by_cases hlt : k < xs.length
    · have hfz := hr.frozenAt k
      have hce := hr.cellAt k (by omega)
      have hst := hr.stored k (.int .i64 (q + (k : Int)))
      rw [mark_step xs q k hlt] at hst
      obtain ⟨u, hu⟩ : ∃ u, ((((ups q k) ++ xs.drop k).map (Value.int .i64)))[k]? = some u := ⟨_, List.getElem?_eq_getElem (by simp [ups_length]; omega)⟩
      rw [hu] at hce
      clear hu ho
      go_wp2
      go_roundw
      case rel =>
        refine ⟨k + 1, by omega, by go_num, by simp; omega, hst.1, ?_⟩
        exact ⟨hst.2.os.trans hf.os, hst.2.tape.trans hf.tape, hst.2.output.trans hf.output, Nat.le_trans hf.size hst.2.size, fun i hi hne => (hst.2.block i (Nat.lt_of_lt_of_le hi hf.size) hne).trans (hf.block i hi hne)⟩
      case measure => simp [intOf]; omega
    · go_wp2
      go_ret
      have hkn : k = xs.length := by omega
      subst hkn
      refine ⟨rfl, ⟨?_, by simpa [ups_length] using hl, ?_⟩, hf⟩
      · simpa [ups_length] using hr
      · intro x hx
        simp only [ups, List.mem_map, List.mem_range] at hx
        obtain ⟨j, hj, rfl⟩ := hx
        exact ⟨by omega, by omega⟩

set_option maxHeartbeats 400000 in
theorem held_any (ao : Option Addr) (n cap : Nat) (q : Int) (w : World) (q0 : 0 ≤ q) (q1 : q ≤ 4294967296) (h : Reads w ao (ups q n)) :
    Calls Tryz.prog 39 #[.slice ao n cap, .int .i64 q] w fun e w' => e = .returned (.int .i64 (q + (n : Int))) ∧ w' = w := by
  have hl : n ≤ 4294967296 := by have := h.len; rwa [ups_length] at this
  go_enter Tryz.func39, Tryz.ntmps39
  go_wp2
  go_loop [1, 5] (fun c i => ∃ k : Nat, k ≤ n ∧ i = .int .i64 k ∧ c = .int .i64 (q + (k : Int))) (fun _ i => n - (intOf i).toNat)
  case atStart => exact ⟨0, Nat.zero_le _, rfl, by simp⟩
  case round =>
    obtain ⟨k, hk, rfl, rfl⟩ := hrel
    by_cases hlt : k < n
    · obtain ⟨b, off, rfl, hc⟩ := h.at_ k (by rwa [ups_length])
      have hck := hc k (by rwa [ups_length])
      rw [List.getD_eq_getElem?_getD, ups_at q n k hlt, Option.getD_some] at hck
      clear hc
      go_wp2
      go_round
      case rel => exact ⟨k + 1, by omega, by go_num, by simp; omega⟩
      case measure => simp [intOf]; omega
    · go_wp2
      go_ret
      have hkn : k = n := by omega
      subst hkn
      exact ⟨rfl, rfl⟩
end Go.Proofs.YtcofhmikdkkigaaGreatDoor
namespace Go.Proofs.YtcofhmikdkkigaaGreatDoor
open Go.RowKit

set_option maxRecDepth 20000 in
set_option maxHeartbeats 4000000 in
theorem befLaw (a0 : Option Addr) (cap0 : Nat) (a1 : Int) (es : List Ev) (w : World) (hm : es.length ≤ maxLen) (hr : es.length ≤ 16777216 → ReadsE w a0 es) (hs : Shapes w) (hT : Tab w) :
    Calls Tryz.prog 6 #[.slice a0 es.length cap0, .int .i64 a1] w fun e w' => e = .returned (.bool true) ∧ Below w.heap.size w w' := by
  have hcap : es.length ≤ 9223372036854775807 := by unfold maxLen at hm; omega
  have cZ := fun w => sz_any a0 es.length cap0 w hcap
  by_cases hbig : es.length ≤ 1048576
  · rw [if_pos hbig] at cZ
    have hr := hr (by omega)
    have cT := fun w h => toEs_any a0 es.length cap0 es w rfl h
    have cS := fun g c w hc h => specBef_any g 0 es.length c es w rfl hc h a1
    have cI := fun ao c w hc h hs hT hab => implBef_any ao es.length c es w rfl hc h a1 hs hT hab
    have cE := fun ao bo c d w h h' => eqEs_same ao bo es.length c d es w rfl h h'
    have cM := fun g c base w h => markEs_any g es.length c base 1 es w rfl (by omega) (by omega) h (by omega)
    have hK : ((1 + 8 * (es.length : Int)) < 0) = False := by simp; omega
    obtain ⟨kk, hkk⟩ : ∃ kk, kk = 1 + 8 * (es.length : Int) := ⟨_, rfl⟩
    rw [← hkk] at hK
    simp only [← hkk] at cM
    clear hkk
    have hJl := rsL_len (rJ es a1).2
    obtain ⟨J, hJ⟩ : ∃ J, J = rsL (rJ es a1).2 := ⟨_, rfl⟩
    rw [← hJ] at hJl
    simp only [← hJ] at cS cI
    clear hJ hm hcap
    have heq : decide (J = J) = true := by simp
    go_enter Tryz.func6, Tryz.ntmps6
    go_wp2_with fail
    refine (cZ _).mono ?_
    rintro e u0 ⟨rfl, rfl⟩
    clear cZ
    go_wp2_with fail
    refine (cT _ hr).mono ?_
    rintro e u1 ⟨v1, rfl, o1, f1⟩
    obtain ⟨g1, c1, rfl, o1, hl1⟩ := o1
    go_wp2_with fail
    refine (cS _ _ _ (own_capR o1) (own_readsE o1 hl1)).mono ?_
    rintro e u2 ⟨v2, rfl, ow, f2⟩
    obtain ⟨gw, cw, rfl, ow⟩ := ow
    have F2 := f1.trans f2
    have sw := own_lt ow
    clear o1 hl1 cS
    go_wp2_with fail
    refine (cT _ (hr.fr F2)).mono ?_
    rintro e u3 ⟨v3, rfl, ox, f3⟩
    obtain ⟨gx, cx, rfl, ox, hlx⟩ := ox
    have tx := ox.lt gx rfl
    have F3 := F2.trans f3
    go_wp2_with fail
    refine (cI _ _ _ (own_capR ox) (own_readsE ox hlx) (hs.fr F3) (hT.fr F3) (fun k hk => by simp only [blk, Option.map_some, Option.some.injEq] at hk; omega)).mono ?_
    rintro e u4 ⟨v4, rfl, og, f4⟩
    obtain ⟨gg, cg, rfl, og⟩ := og
    have tg := own_lt og
    have F4 := F3.trans f4
    have ow := ow.fr (f3.trans f4)
    have ox := ox.kept f4 (by simp [Value.ownBlock])
    have z3 := f3.size
    have z4 := f4.size
    have z1 := f1.size
    have z2 := f2.size
    clear f1 f2 f3 f4 F2 F3
    go_wp2_with fail
    refine (eqI_any _ _ _ _ _ _ J J _ rfl rfl og.reads ow.reads).mono ?_
    rintro e u5 ⟨rfl, n5, rfl⟩
    have f5 := Fr.drewN u4 n5
    have F5 := F4.trans f5
    have ow := ow.fr f5
    have ox := ox.kept f5 (by simp [Value.ownBlock])
    have og := og.fr f5
    go_wp2_with fail
    refine (cT _ (hr.fr F5)).mono ?_
    rintro e u7 ⟨v7, rfl, o7, f7⟩
    obtain ⟨g7, c7, rfl, o7, hl7⟩ := o7
    have ox := ox.kept f7 (by simp [Value.ownBlock])
    go_wp2_with fail
    refine (cE _ _ _ _ _ (own_readsE ox hlx) (own_readsE o7 hl7)).mono ?_
    rintro e u8 ⟨rfl, f8⟩
    have F8 := (F5.trans f7).trans f8
    have ow := ow.fr (f7.trans f8)
    have og := og.fr (f7.trans f8)
    have ox := ox.kept f8 (by simp [Value.ownBlock])
    clear o7 hl7 F4 F5 f5 f7 f8
    go_wp2_with fail
    refine (cM _ _ _ _ ox).mono ?_
    rintro e u9 ⟨rfl, -, k9⟩
    have F9 := F8.then k9 (fun j hj => by cases hj; omega)
    have ow := ow.keep k9 (own_ne (by omega))
    have og := og.keep k9 (own_ne (by omega))
    clear k9 ox F8
    go_wp2_with fail
    refine (eqI_any _ _ _ _ _ _ J J _ rfl rfl og.reads ow.reads).mono ?_
    rintro e u10 ⟨rfl, n10, rfl⟩
    have f10 := Fr.drewN u9 n10
    have F10 := F9.trans f10
    have ow := ow.fr f10
    have og := og.fr f10
    clear F9 f10
    go_wp2_with fail
    refine (mark_any _ _ _ _ 1 J _ rfl (by omega) (by omega) og).mono ?_
    rintro e u11 ⟨rfl, om, k11⟩
    have F11 := F10.then k11 (one_blk (by omega))
    have ow := ow.keep k11 (own_ne (by omega))
    clear k11 og F10
    go_wp2_with fail
    refine (held_any _ _ _ 1 _ (by omega) (by omega) om.reads).mono ?_
    rintro e u12 ⟨rfl, rfl⟩
    go_wp2_with fail
    refine (cT _ (hr.fr F11)).mono ?_
    rintro e u13 ⟨v13, rfl, o13, f13⟩
    obtain ⟨g13, c13, rfl, o13, hl13⟩ := o13
    have t13 := o13.lt g13 rfl
    have F13 := F11.trans f13
    go_wp2_with fail
    refine (cI _ _ _ (own_capR o13) (own_readsE o13 hl13) (hs.fr F13) (hT.fr F13) (fun k hk => by simp only [blk, Option.map_some, Option.some.injEq] at hk; omega)).mono ?_
    rintro e u14 ⟨v14, rfl, oh, f14⟩
    obtain ⟨gh, ch, rfl, oh⟩ := oh
    have F14 := F13.trans f14
    have f134 := f13.trans f14
    have ow := ow.fr f134
    have om := om.fr f134
    clear f13 f14 F13 F11 o13 hl13 f134
    go_wp2_with fail
    refine (eqI_any _ _ _ _ _ _ J J _ rfl rfl oh.reads ow.reads).mono ?_
    rintro e u15 ⟨rfl, n15, rfl⟩
    have om := om.fr (Fr.drewN u14 n15)
    go_wp2_with fail
    refine (held_any _ _ _ 1 _ (by omega) (by omega) om.reads).mono ?_
    rintro e u16 ⟨rfl, rfl⟩
    go_wp2_with fail
    go_ret
    exact ⟨rfl, (F14.trans (Fr.drewN _ n15)).below⟩
  · rw [if_neg hbig] at cZ
    go_enter Tryz.func6, Tryz.ntmps6
    go_wp2_with fail
    refine (cZ _).mono ?_
    rintro e u0 ⟨rfl, rfl⟩
    go_wp2_with fail
    go_ret
    exact ⟨rfl, (Fr.refl _).below⟩
end Go.Proofs.YtcofhmikdkkigaaGreatDoor
