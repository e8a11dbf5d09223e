/-
  The bytes of one event, by the specification: l3Fields, l3Has, l3Event.
-/
import Derived.Test.YtnekojcgbokhpaaDoorEvs
import Derived.Test.YtnekojcgbokhpaaDoorEv2
import Derived.Test.YtnekojcgbokhpaaDoorPut
import Derived.Test.YtnekojcgbokhpaaDoorIntsApp2
import Derived.Test.YtnekojcgbokhpaaDoorEvTo
namespace Go.Proofs.YtnekojcgbokhpaaDoor
open Go.RowKit

theorem I64.small {x : Int} (h : 0 ≤ x ∧ x ≤ 65535) : I64 x := ⟨by omega, by omega⟩

/-- '[]int64{..}' -/
theorem own_lit (w : World) (xs : List Int) (hl : xs.length ≤ 4294967296) (hb : ∀ x ∈ xs, I64 x) : OwnS (w.alloc (.cells (xs.map (Value.int .i64)).toArray 2)) w.heap.size (.slice (some ⟨w.heap.size, 0, none⟩) xs.length xs.length) xs :=
  ⟨w.heap.size, xs.length, rfl, ⟨by simp, .inr ⟨w.heap.size, xs.length, _, rfl, Nat.le_refl _, heap_alloc_new w _, Nat.le_refl _, by unfold maxLen; omega, by simp, by rw [Nat.mul_one]; exact List.take_of_length_le (by simp)⟩⟩, hl, hb⟩

/-- The fields' numbers. -/
def flds (e : Ev) : List Int := [e.o, e.w, e.l, e.s, e.f, e.t]
theorem flds_at (e : Ev) (j : Nat) (h : j < 6) : (flds e).getD j 0 = e.at (j + 2) := by
  rcases (by omega : j = 0 ∨ j = 1 ∨ j = 2 ∨ j = 3 ∨ j = 4 ∨ j = 5) with rfl | rfl | rfl | rfl | rfl | rfl <;> rfl

set_option maxHeartbeats 1000000 in
theorem l3Fields_any (e : Ev) (w : World) (he : ∀ j, 0 ≤ e.at j ∧ e.at j ≤ 65535) :
    Calls Tryd.prog 66 #[.agg #[.int .i64 e.k, .int .i64 e.g, .int .i64 e.o, .int .i64 e.w, .int .i64 e.l, .int .i64 e.s, .int .i64 e.f, .int .i64 e.t]] w fun x w' => ∃ g, x = .returned (.slice (some ⟨g, 0, none⟩) 6 6) ∧ w.heap.size ≤ g ∧ g < w'.heap.size ∧ Reads w' (some ⟨g, 0, none⟩) (flds e) ∧ Fr w w' := by
  have hb := EvAt.new w e 49
  obtain ⟨c0, c1, c2, c3, c4, c5, c6, c7⟩ := hb
  have hI : ∀ x ∈ flds e, I64 x := by
    intro x hx
    simp only [flds, List.mem_cons, List.not_mem_nil, or_false] at hx
    rcases hx with rfl | rfl | rfl | rfl | rfl | rfl
    · exact I64.small (he 2)
    · exact I64.small (he 3)
    · exact I64.small (he 4)
    · exact I64.small (he 5)
    · exact I64.small (he 6)
    · exact I64.small (he 7)
  go_enter Tryd.func66, Tryd.ntmps66
  go_wp2_with fail
  go_ret
  obtain ⟨g, cap, hv, ho⟩ := own_lit (w.alloc (.cells #[.int .i64 e.k, .int .i64 e.g, .int .i64 e.o, .int .i64 e.w, .int .i64 e.l, .int .i64 e.s, .int .i64 e.f, .int .i64 e.t] 49)) (flds e) (by simp [flds]) hI
  simp only [Value.slice.injEq, Option.some.injEq, Addr.mk.injEq, and_true] at hv
  obtain ⟨rfl, -, rfl⟩ := hv
  have hr := ho.reads
  have es : (w.alloc (.cells #[.int .i64 e.k, .int .i64 e.g, .int .i64 e.o, .int .i64 e.w, .int .i64 e.l, .int .i64 e.s, .int .i64 e.f, .int .i64 e.t] 49)).heap.size = w.heap.size + 1 := by simp
  rw [es] at hr
  exact ⟨w.heap.size + 1, by simp, by omega, by simp, hr, (Fr.alloc _ _).trans (Fr.alloc _ _)⟩

set_option maxHeartbeats 1000000 in
theorem l3Has_any (k : Int) (i : Nat) (hi : i < 6) (w : World) :
    Calls Tryd.prog 67 #[.int .i64 k, .int .i64 (i : Int)] w fun x w' => x = .returned (.bool (hasB k (2 ^ i))) ∧ Fr w w' := by
  have hc := lit_at (w := w) (t := 2) [1, 2, 4, 8, 16, 32] i hi
  have e : ([1, 2, 4, 8, 16, 32] : List Int).getD i 0 = 2 ^ i := by
    rcases (by omega : i = 0 ∨ i = 1 ∨ i = 2 ∨ i = 3 ∨ i = 4 ∨ i = 5) with rfl | rfl | rfl | rfl | rfl | rfl <;> rfl
  rw [e] at hc
  have hd : (2 : Int) ^ i = 1 ∨ (2 : Int) ^ i = 2 ∨ (2 : Int) ^ i = 4 ∨ (2 : Int) ^ i = 8 ∨ (2 : Int) ^ i = 16 ∨ (2 : Int) ^ i = 32 := by
    rcases (by omega : i = 0 ∨ i = 1 ∨ i = 2 ∨ i = 3 ∨ i = 4 ∨ i = 5) with rfl | rfl | rfl | rfl | rfl | rfl <;> decide
  obtain ⟨d, hdd⟩ : ∃ d : Int, d = 2 ^ i := ⟨_, rfl⟩
  rw [← hdd] at hc hd ⊢
  clear hdd e
  have cH := fun w => l2Has_any k d w hd
  simp only [List.map_cons, List.map_nil] at hc
  clear hd
  go_enter Tryd.func67, Tryd.ntmps67
  go_wp2_with fail
  refine (cH _).mono ?_
  rintro e w1 ⟨rfl, f1⟩
  go_wp2_with fail
  go_ret
  exact ⟨rfl, (Fr.alloc _ _).trans f1⟩

/-- The numbers that are kept of an event: its Kind, its Gor, those of its first i fields that it has. -/
def nums (e : Ev) (i : Nat) : List Int := e.k :: e.g :: ((List.range i).filter fun j => hasB e.k (2 ^ j)).map fun j => e.at (j + 2)
theorem nums_yes (e : Ev) (i : Nat) (h : hasB e.k (2 ^ i) = true) : nums e (i + 1) = nums e i ++ [e.at (i + 2)] := by
  simp [nums, List.range_succ, List.filter_append, h]
theorem nums_no (e : Ev) (i : Nat) (h : hasB e.k (2 ^ i) = false) : nums e (i + 1) = nums e i := by
  simp [nums, List.range_succ, List.filter_append, h]
theorem nums_len (e : Ev) (i : Nat) : (nums e i).length ≤ i + 2 := by
  have := List.length_filter_le (fun j => hasB e.k (2 ^ j)) (List.range i)
  simp [nums] at this ⊢
  omega
theorem nums_mem (e : Ev) (i : Nat) (x : Int) (h : x ∈ nums e i) : ∃ j, x = e.at j := by
  simp only [nums, List.mem_cons, List.mem_map] at h
  rcases h with rfl | rfl | ⟨j, -, rfl⟩
  · exact ⟨0, rfl⟩
  · exact ⟨1, rfl⟩
  · exact ⟨j + 2, rfl⟩
theorem nums_ev (e : Ev) : (nums e 6).flatMap putL = evL e := by
  rw [nums, evL, numsL, offs, offF, ← List.range_eq_range']
  simp only [List.flatMap_cons, List.flatMap_map]
  rfl
theorem flat_take (L : List Int) (t : Nat) (h : t < L.length) : ((L.take t).flatMap putL) ++ putL L[t] = (L.take (t + 1)).flatMap putL := by
  rw [List.take_succ_eq_append_getElem h, List.flatMap_append]
  simp
theorem flat_len (L : List Int) : (L.flatMap putL).length ≤ L.length * 6 := by
  induction L with
  | nil => simp
  | cons x L ih =>
    have := (putL_len x).2
    rw [List.flatMap_cons, List.length_append, List.length_cons]
    omega

set_option maxHeartbeats 2000000 in
theorem l3Event_any (e : Ev) (w : World) (ho : evOk e = true) :
    Calls Tryd.prog 29 #[.agg #[.int .i64 e.k, .int .i64 e.g, .int .i64 e.o, .int .i64 e.w, .int .i64 e.l, .int .i64 e.s, .int .i64 e.f, .int .i64 e.t]] w fun x w' => ∃ v, x = .returned v ∧ OwnBS w' w.heap.size v (evL e) ∧ Fr w w' := by
  have he := (ok_at ho).1
  clear ho
  have hb := EvAt.new w e 49
  obtain ⟨c0, c1, c2, c3, c4, c5, c6, c7⟩ := hb
  have cF := fun w => l3Fields_any e w he
  have hI : ∀ i, ∀ x ∈ nums e i, I64 x := fun i x hx => by
    obtain ⟨j, rfl⟩ := nums_mem e i x hx
    exact I64.small (he j)
  go_enter Tryd.func29, Tryd.ntmps29
  have hL := own_lit (w.alloc (.cells #[.int .i64 e.k, .int .i64 e.g, .int .i64 e.o, .int .i64 e.w, .int .i64 e.l, .int .i64 e.s, .int .i64 e.f, .int .i64 e.t] 49)) (nums e 0) (by simp [nums]) (hI 0)
  have hLf := (Fr.alloc w (.cells #[.int .i64 e.k, .int .i64 e.g, .int .i64 e.o, .int .i64 e.w, .int .i64 e.l, .int .i64 e.s, .int .i64 e.f, .int .i64 e.t] 49)).trans (Fr.alloc _ (.cells ((nums e 0).map (Value.int .i64)).toArray 2))
  have d0 := (Fr.alloc (w.alloc (.cells #[.int .i64 e.k, .int .i64 e.g, .int .i64 e.o, .int .i64 e.w, .int .i64 e.l, .int .i64 e.s, .int .i64 e.f, .int .i64 e.t] 49)) (.cells ((nums e 0).map (Value.int .i64)).toArray 2)).cell c0
  obtain ⟨W1, hW1⟩ : ∃ W1, W1 = (w.alloc (.cells #[.int .i64 e.k, .int .i64 e.g, .int .i64 e.o, .int .i64 e.w, .int .i64 e.l, .int .i64 e.s, .int .i64 e.f, .int .i64 e.t] 49)).alloc (.cells #[.int .i64 e.k, .int .i64 e.g] 2) := ⟨_, rfl⟩
  have es : (w.alloc (.cells #[.int .i64 e.k, .int .i64 e.g, .int .i64 e.o, .int .i64 e.w, .int .i64 e.l, .int .i64 e.s, .int .i64 e.f, .int .i64 e.t] 49)).heap.size = w.heap.size + 1 := by simp
  rw [es] at hL
  have hL : OwnS W1 (w.heap.size + 1) (.slice (some ⟨w.heap.size + 1, 0, none⟩) 2 2) (nums e 0) := by rw [hW1]; exact hL
  have hLf : Fr w W1 := by rw [hW1]; exact hLf
  have d0 : W1.cell? ⟨w.heap.size, 0, none⟩ = some (.int .i64 e.k) := by rw [hW1]; exact d0
  have hsz : W1.heap.size = w.heap.size + 2 := by rw [hW1]; simp
  go_wp2_with fail
  rw [← hW1]
  clear hW1 es c0 c1 c2 c3 c4 c5 c6 c7
  refine (cF _).mono ?_
  rintro x w1 ⟨gf, rfl, g0, g1, hrf, ff⟩
  have hL := hL.fr ff
  have hLf := hLf.trans ff
  have d0 := ff.cell d0
  clear cF ff
  go_wp2_with fail
  go_loopw [3, 5] (fun u i wr => ∃ k : Nat, k ≤ 6 ∧ i = .int .i64 k ∧ OwnS wr (w.heap.size + 1) u (nums e k) ∧ u.ownBlock ≠ some gf ∧ Reads wr (some ⟨gf, 0, none⟩) (flds e) ∧ wr.cell? ⟨w.heap.size, 0, none⟩ = some (.int .i64 e.k) ∧ gf < wr.heap.size ∧ Fr w wr) (fun _ i _ => 6 - (intOf i).toNat)
  case atStart => exact ⟨0, by omega, rfl, hL, by simp [Value.ownBlock]; omega, hrf, d0, g1, hLf⟩
  case round =>
    obtain ⟨k, hk, rfl, ho, hne, hr, hd, hg, hf⟩ := hrel
    have hs := hf.size
    clear hL hLf d0 hrf
    by_cases hlt : k < 6
    · have cH := fun w => l3Has_any e.k k hlt w
      cases hh : hasB e.k (2 ^ k)
      · simp only [hh] at cH
        have HN : Hid (nums e (k + 1) = nums e k) := nums_no e k hh
        clear hh
        go_wp2_with fail
        refine (cH _).mono ?_
        rintro e w2 ⟨rfl, f2⟩
        go_wp2_with fail
        go_roundw
        case rel => exact ⟨k + 1, by omega, by go_num, by rw [HN.out]; exact ho.fr f2, hne, hr.fr f2, f2.cell hd, by have := f2.size; omega, hf.trans f2⟩
        case measure => simp [intOf]; omega
      · simp only [hh] at cH
        have HN : Hid (nums e (k + 1) = nums e k ++ [e.at (k + 2)]) := nums_yes e k hh
        clear hh
        go_wp2_with fail
        refine (cH _).mono ?_
        rintro e w2 ⟨rfl, f2⟩
        have ho := ho.fr f2
        have hr := hr.fr f2
        have hd := f2.cell hd
        have s2 := f2.size
        have hf := hf.trans f2
        obtain ⟨b, off, hbo, hc⟩ := hr.at_ k (by simpa [flds] using hlt)
        simp only [Option.some.injEq, Addr.mk.injEq, and_true] at hbo
        obtain ⟨rfl, rfl⟩ := hbo
        have hck := hc k (by simpa [flds] using hlt)
        rw [flds_at e k hlt, Nat.zero_add] at hck
        have hm := reads_one w2 (e.at (k + 2)) (I64.small (he _))
        have hle : (nums e k).length + [e.at (k + 2)].length ≤ 4294967296 := by have := nums_len e k; simp; omega
        obtain ⟨z, hz⟩ : ∃ z, z = e.at (k + 2) := ⟨_, rfl⟩
        rw [← hz] at hck hm hle HN
        clear hz hc cH
        go_wp2_with (at_builtin; refine appI2 _ rfl _ _ rfl (w.heap.size + 1) _ (nums e k) [z] rfl (ho.fr (Fr.alloc _ _)) _ _ _ rfl rfl (by simp) hm hle (by simp; omega) ?_; intro v1 w4 hv1 hg1 hat)
        have fa := Fr.alloc w2 (.cells #[.int .i64 z] 2)
        have hbk := ho.blk
        go_roundw
        case rel =>
          refine ⟨k + 1, by omega, by go_num, by rw [HN.out]; exact hv1, ?_, (hr.fr fa).keep hg1 (.inr (fun q => hne q.symm)), hg1.cell (fa.cell hd) (fun q => by have := hbk _ q.symm; simp only at this; omega), by have := hg1.size; simp at this; omega, (hf.trans fa).then hg1 (fun j hj => by have := hbk _ hj; omega)⟩
          rcases hat with hat | hat
          · rw [hat]; exact hne
          · rw [hat]; simp; omega
        case measure => simp [intOf]; omega
    · have e6 : k = 6 := by omega
      have ho := ho
      rw [e6] at ho
      clear hne hr hd hg e6
      obtain ⟨w3, hw3⟩ : ∃ w3, w3 = wr := ⟨_, rfl⟩
      subst hw3
      have HEV : Hid ((nums e 6).flatMap putL = evL e) := nums_ev e
      have hmem := nums_mem e 6
      have hlen := nums_len e 6
      obtain ⟨L, hLL⟩ : ∃ L, L = nums e 6 := ⟨_, rfl⟩
      rw [← hLL] at ho hmem hlen HEV
      clear hLL
      obtain ⟨gl, cl, rfl, hol⟩ := ho
      have tl := own_lt hol
      have hrl := hol.reads
      go_wp2_with fail
      go_loopw [6, 7] (fun o i wx => ∃ t : Nat, t ≤ L.length ∧ i = .int .i64 t ∧ OwnBS wx w3.heap.size o ((L.take t).flatMap putL) ∧ Fr w3 wx) (fun _ i _ => L.length - (intOf i).toNat)
      case atStart => exact ⟨0, Nat.zero_le _, rfl, ownB_new w3, Fr.alloc w3 _⟩
      case round =>
        obtain ⟨t, ht, rfl, hob, hfx⟩ := hrel
        have hsx := hfx.size
        by_cases hlt : t < L.length
        · obtain ⟨b, off, hbo, hc⟩ := (hrl.fr hfx).at_ t hlt
          simp only [Option.some.injEq, Addr.mk.injEq, and_true] at hbo
          obtain ⟨rfl, rfl⟩ := hbo
          have hct := hc t hlt
          rw [getD_at hlt, Nat.zero_add] at hct
          have HX : Hid (((L.take t).flatMap putL) ++ putL L[t] = (L.take (t + 1)).flatMap putL) := flat_take L t hlt
          have hzr : 0 ≤ L[t] ∧ L[t] ≤ 65535 := by
            obtain ⟨j, hj⟩ := hmem _ (List.getElem_mem hlt)
            rw [hj]; exact he j
          have hl1 := flat_len (L.take t)
          have hl2 : (L.take t).length ≤ 8 := by simp; omega
          obtain ⟨z, hz⟩ : ∃ z, z = L[t] := ⟨_, rfl⟩
          rw [← hz] at hct HX hzr
          have cP := fun w => specPut_any z w
          rw [putA, inB_mk hzr.1 (by omega)] at cP
          simp only [if_true] at cP
          have hpl := (putL_len z).2
          clear hz hc
          obtain ⟨PL, hPL⟩ : ∃ PL, PL = putL z := ⟨_, rfl⟩
          rw [← hPL] at HX hpl
          simp only [← hPL] at cP
          clear hPL
          go_wp2_with fail
          refine (cP _).mono ?_
          rintro e w5 ⟨vx, rfl, ox, f5⟩
          obtain ⟨gx, cx, rfl, ox⟩ := ox
          have s5 := f5.size
          go_wp2_with (at_builtin; refine appB _ rfl _ _ rfl w3.heap.size _ _ PL rfl (hob.fr f5) _ _ _ rfl rfl (by simp) ox.reads (by omega) (by omega) ?_; intro v6 w6 hv6 hg6)
          go_roundw
          case rel => exact ⟨t + 1, by omega, by go_num, by rw [← HX.out]; exact hv6, (hfx.trans f5).then hg6 hob.blk⟩
          case measure => simp [intOf]; omega
        · have et : t = L.length := by omega
          subst et
          rw [List.take_length, HEV.out] at hob
          go_wp2_with fail
          go_ret
          exact ⟨_, rfl, hob.lower hs, hf.trans hfx⟩
end Go.Proofs.YtnekojcgbokhpaaDoor
