/-
  The drawing of bytes to be decoded: DrawDecoded.
-/
import Derived.Test.YtnekojcgbokhpaaDoorScEnc
import Derived.Test.YtnekojcgbokhpaaDoorEncSpec
import Derived.Deep.RegionLaw
namespace Go.Proofs.YtnekojcgbokhpaaDoor
open Go.RowKit

/-- 'append' of bytes, as one step of a region that draws. -/
theorem step_appB {ops : Array Oper} {o : Oper} {a : Act} {w : World} {K : Act → World → Prop} {Q : Exit → Act → World → Prop} {E : Prop} (hgd : o.guard = none) (s x : Operand)
    (ho : o.op = .call { callee := .builtin .append, args := #[s, x], argTypes := #[22, 22] })
    (base : Nat) (v : Value) (xs news : List Int) (hs : a.eval s = v) (hown : OwnBS w base v xs)
    (ad : Addr) (m c : Nat) (hx : a.eval x = .slice (some ad) m c) (hm : news.length = m) (hnews : ReadsB w (some ad) news)
    (hlen : xs.length + news.length ≤ 4294967296) (hbase : base ≤ w.heap.size)
    (h : ∀ v' w', OwnBS w' base v' (xs ++ news) → w.grownBy w' v.ownBlock → K (a.put o.dst v') w') : if Region.wanted o (yielded ops a.tmps) = true then Oper.wp Tryd.prog o a w K Q else E := by
  have hw : Region.wanted o (yielded ops a.tmps) = true := by simp [Region.wanted, hgd]
  rw [if_pos hw]
  obtain ⟨i0, hi, hz0, hz1, hz2⟩ := info_parts Tryd.info5
  subst hm
  have hbd : ∀ x ∈ xs ++ news, U8 x := by
    obtain ⟨g, cap, rfl, ho⟩ := hown
    intro x hx
    rcases List.mem_append.1 hx with hx | hx
    · exact ho.2.2 x hx
    · exact hnews.bd x hx
  have hcell : ∀ j u, (news.map (Value.int .u8))[j]? = some u → w.cell? (ad.add j) = some u := by
    intro j u hu
    have hj : j < news.length := by
      have := (List.getElem?_eq_some_iff.1 hu).1
      simpa using this
    obtain ⟨b, off, e, hcc⟩ := hnews.at_ j hj
    simp only [Option.some.injEq] at e
    subst e
    rw [Addr.add_lit, hcc j hj]
    rw [List.getElem?_map, List.getElem?_eq_getElem hj] at hu
    rw [getD_at hj]
    simpa using hu
  obtain ⟨g, cap, rfl, ho'⟩ := hown
  obtain ⟨v', w', hrun, hv, hg, hnz⟩ := run_append_own (P := Tryd.prog) w base 22 o.type 5 i0 (.int .u8 0) 1 1 Tryd.underlying22 hi hz0 hz1 hz2 rfl (by decide) _ _ _ ho'.1 ad news.length c (news.map (Value.int .u8)) (by simp) hcell (ints_oneCell _ _) (by unfold maxLen; omega) (by omega) hbase
  unfold Oper.wp
  simp [execOp, ho, resolve, invoke, builtin, hs, hx, hrun, Result.andThen]
  refine h v' w' (shapeB_of ?_ ?_ (by simp; omega) hbd) hg
  · simpa using hv
  · intro e
    have := (hnz.1 e).1
    simp at this

theorem ReadsB.drop {w : World} {b : Nat} {xs : List Int} {n : Nat} (h : ReadsB w (some ⟨b, 0, none⟩) xs) (k : Nat) (hn : xs.length = n) (hk : k ≤ n) : ReadsB w (some ⟨b, k, none⟩) (xs.drop k) := by
  refine ⟨by have := h.len; simp; omega, fun x hx => h.bd x (List.mem_of_mem_drop hx), fun i hi => ⟨b, k, rfl, fun j hj => ?_⟩⟩
  simp at hj hi
  obtain ⟨b', o', e, hc⟩ := h.at_ 0 (by omega)
  simp only [Option.some.injEq, Addr.mk.injEq, and_true] at e
  obtain ⟨rfl, rfl⟩ := e
  have := hc (k + j) (by omega)
  rw [Nat.zero_add] at this
  rw [this]
  simp [List.getD_eq_getElem?_getD, List.getElem?_drop]

/-- What DrawDecoded answers: bytes that can be read. -/
def DrawnB (w w' : World) (x : Ending) : Prop :=
  ∃ ao n cap, x = .returned (.slice ao n cap) ∧ (∃ bs : List Int, bs.length = n ∧ ReadsB w' ao bs) ∧ n ≤ cap ∧ n ≤ 16777216 ∧ (∀ j, blk ao = some j → j < w'.heap.size) ∧ Fr w w'

theorem encA_len (es : List Ev) (h : es.length ≤ 301) : (encA es).length ≤ 16777215 := by
  have h2 : (es.flatMap evL).length ≤ es.length * 48 := by
    induction es with
    | nil => simp
    | cons e es ih =>
      have := evL_most e
      have := ih (by simp at h; omega)
      rw [List.flatMap_cons, List.length_append, List.length_cons]
      omega
  unfold encA
  split
  · rw [encL, List.length_append]; simp only [List.length_cons, List.length_nil]; omega
  · simp

set_option maxRecDepth 20000 in
set_option maxHeartbeats 4000000 in
theorem drawDecoded_any (ao : Option Addr) (n cap : Nat) (w : World) (h : ByteRow w ao n) (hn : n ≤ 4294967296) :
    Calls Tryd.prog 12 #[.slice ao n cap] w fun x w' => DrawnB w w' x := by
  go_enter Tryd.func12, Tryd.ntmps12
  go_wp2_with fail
  refine (l1New_any _ _ _ _ h hn).mono ?_
  rintro e w1 ⟨rfl, c1, f1⟩
  have hg := c1.lt
  obtain ⟨g, hgg⟩ : ∃ g, g = w.heap.size := ⟨_, rfl⟩
  rw [← hgg] at c1 hg ⊢
  have HG : Hid (g = w.heap.size) := hgg
  clear hgg
  go_wp2_with fail
  refine (drawEncoded_any _ _ _ _ (h.fr f1) hn).mono ?_
  rintro e w2 ⟨v2, rfl, es, o2, l2, f2⟩
  obtain ⟨g2, q2, rfl, o2, hl2⟩ := o2
  go_wp2_with fail
  refine (specEnc_any _ _ _ es _ rfl (own_readsE o2 hl2)).mono ?_
  rintro e w3 ⟨vb, rfl, ob, f3⟩
  have hle := encA_len es l2
  obtain ⟨J, hJ⟩ : ∃ J, J = encA es := ⟨_, rfl⟩
  rw [← hJ] at ob hle
  clear hJ
  have c3 := (c1.fr f2).fr f3
  have F3 := (f1.trans f2).trans f3
  have s2 := f2.size
  obtain ⟨gb, cb, rfl, ob⟩ := ob
  have tb := ownB_lt ob
  have hgb : g < gb := by omega
  have hcb := (ownB_cap ob).2
  obtain ⟨N, hN⟩ : ∃ N, N = J.length := ⟨_, rfl⟩
  rw [← hN] at ob hle hcb ⊢
  have HN : Hid (J.length = N) := hN.symm
  clear hN o2 l2 hl2 c1 f1 f2 f3 h s2
  go_wp2_with fail
  refine (l1Once_any _ _ _ c3).mono ?_
  rintro e w4 ⟨on, rfl, c4, g4⟩
  have ob := ob.keep g4 (own_neB (by omega))
  have F4 := F3.then g4 (one_blk (Nat.le_of_eq HG.out.symm))
  have s4 := g4.size
  have HD : Hid (∀ w', Fr w4 w' → DrawnB w w' (.returned (.slice (some ⟨gb, 0, none⟩) N cb))) := fun w' f => ⟨_, _, _, rfl, ⟨J, HN.out, ob.reads.fr f⟩, hcb, by omega, fun j hj => by simp only [blk, Option.map_some, Option.some.injEq] at hj; have := f.size; omega, F4.trans f⟩
  clear c3 g4 F3
  cases on
  · go_wp2_with fail
    go_ret
    exact HD.out _ (Fr.refl _)
  by_cases h0 : 0 < N
  · have hd : decide ((0 : Int) < (N : Int)) = true := decide_eq_true (by omega)
    go_wp2_with fail
    refine (l1Below_any _ _ _ c4).mono ?_
    rintro e w5 ⟨k, rfl, k0, k1, -, c5, g5⟩
    have k2 := k1 (by omega)
    have ob := ob.keep g5 (own_neB (by omega))
    have F5 := F4.then g5 (one_blk (Nat.le_of_eq HG.out.symm))
    have s5 := g5.size
    obtain ⟨k, rfl⟩ := Int.eq_ofNat_of_zero_le k0
    have hkN : k < N := by omega
    clear k1 k0 c4 g5 F4 HD hd
    go_wp2_with fail
    refine (l1Below_any _ _ _ c5).mono ?_
    rintro e w6 ⟨z, rfl, z0, z1, -, c6, g6⟩
    have z2 := z1 (by omega)
    have ob := ob.keep g6 (own_neB (by omega))
    have F6 := F5.then g6 (one_blk (Nat.le_of_eq HG.out.symm))
    have s6 := g6.size
    clear z1 c5 g6 F5
    rcases (show z = 0 ∨ z = 1 ∨ z = 2 ∨ z = 3 by omega) with rfl | rfl | rfl | rfl
    · go_wp2_with fail
      refine (l1Byte_any _ _ c6).mono ?_
      rintro e w7 ⟨y, rfl, y0, y1, c7, g7⟩
      have ob := ob.keep g7 (own_neB (by omega))
      have F7 := F6.then g7 (one_blk (Nat.le_of_eq HG.out.symm))
      have s7 := g7.size
      clear c6 g7 F6 c7
      obtain ⟨oc, ol, ou⟩ := ob
      rw [HN.out] at oc
      have hfz := oc.frozenAt k
      have hce := oc.cellAt k (by simp; omega)
      have hst := oc.stored k (.int .u8 y)
      obtain ⟨u, hu⟩ : ∃ u, (J.map (Value.int .u8))[k]? = some u := ⟨_, List.getElem?_eq_getElem (by simp [HN.out]; omega)⟩
      rw [hu] at hce
      have hwr : IntKind.u8.wrap y = y := by rw [IntKind.wrap_u8]; omega
      have HO : Hid (OwnB (w7.setCell ⟨gb, k, none⟩ (.int .u8 y)) w2.heap.size (.slice (some ⟨gb, 0, none⟩) N cb) (J.set k y)) := by
        refine ⟨?_, by simpa using ol, fun x hx => ?_⟩
        · have := hst.1
          rw [← List.map_set] at this
          simpa [HN.out] using this
        · rcases List.mem_or_eq_of_mem_set hx with hx | rfl
          · exact ou x hx
          · exact ⟨y0, y1⟩
      have HF : Hid (Fr w (w7.setCell ⟨gb, k, none⟩ (.int .u8 y))) := F7.then hst.2 (one_blk (by have := HG.out; omega))
      have hs8 := hst.2.size
      clear oc ol ou hst hu
      go_wp2_with fail
      go_ret
      exact ⟨_, _, _, rfl, ⟨J.set k y, by simpa using HN.out, HO.out.reads⟩, hcb, by omega, fun j hj => by simp only [blk, Option.map_some, Option.some.injEq] at hj; omega, HF.out⟩
    · go_wp2_with fail
      go_ret
      exact ⟨_, _, _, rfl, ⟨J.take k, by simp [HN.out]; omega, ob.reads.take k⟩, by omega, by omega, fun j hj => by simp only [blk, Option.map_some, Option.some.injEq] at hj; omega, F6⟩
    · go_wp2_with fail
      refine (l1Below_any _ _ _ (c6.fr (Fr.alloc _ _))).mono ?_
      rintro e w7 ⟨j, rfl, j0, j1, -, c7, g7⟩
      have j2 := j1 (by omega)
      have fA := Fr.alloc w6 (.cells #[.int .u8 0, .int .u8 128, .int .u8 255, .int .u8 1] 5)
      have hgl : g < w6.heap.size := c6.lt
      have hcell : ∃ y, U8 y ∧ w7.cell? ⟨w6.heap.size, j.toNat, none⟩ = some (.int .u8 y) := by
        rcases (show j = 0 ∨ j = 1 ∨ j = 2 ∨ j = 3 by omega) with rfl | rfl | rfl | rfl
        · exact ⟨0, ⟨by decide, by decide⟩, g7.cell (by simp [go_sem]) (by simp; omega)⟩
        · exact ⟨128, ⟨by decide, by decide⟩, g7.cell (by simp [go_sem]) (by simp; omega)⟩
        · exact ⟨255, ⟨by decide, by decide⟩, g7.cell (by simp [go_sem]) (by simp; omega)⟩
        · exact ⟨1, ⟨by decide, by decide⟩, g7.cell (by simp [go_sem]) (by simp; omega)⟩
      obtain ⟨y, hy, hyc⟩ := hcell
      obtain ⟨jn, rfl⟩ := Int.eq_ofNat_of_zero_le j0
      have hj4 : jn < 4 := by omega
      simp only [Int.toNat_natCast] at hyc
      have ob := (ob.fr fA).keep g7 (own_neB (by omega))
      have F7 := (F6.trans fA).then g7 (one_blk (Nat.le_of_eq HG.out.symm))
      have s7 := g7.size
      simp only [World.size_alloc] at s7
      have obs : OwnBS w7 w2.heap.size (.slice (some ⟨gb, 0, none⟩) N cb) J := ⟨gb, cb, by rw [HN.out], by rw [HN.out]; exact ob⟩
      clear j1 j2 j0 c7 g7 fA c6 F6 ob
      go_wp2_with (at_builtin; refine appB _ rfl _ _ rfl w2.heap.size (.slice (some ⟨gb, 0, none⟩) N cb) J [y] rfl (obs.fr (Fr.alloc _ _)) _ _ _ rfl rfl (by simp) (readsB_one w7 y hy) (by simp [HN.out]; omega) (by simp; omega) ?_; intro v8 w8 hv8 hg8)
      have F8 := (F7.trans (Fr.alloc w7 (.cells #[.int .u8 y] 5))).then hg8 (fun j hj => by simp only [Value.ownBlock, Option.some.injEq] at hj; have := HG.out; omega)
      obtain ⟨g8, c8, rfl, o8⟩ := hv8
      have t8 := ownB_lt o8
      have hc8 := (ownB_cap o8).2
      go_wp2_with fail
      go_ret
      exact ⟨_, _, _, rfl, ⟨J ++ [y], rfl, o8.reads⟩, hc8, by simp [HN.out]; omega, fun j hj => by simp only [blk, Option.map_some, Option.some.injEq] at hj; omega, F8⟩
    · have hr0 := ob.reads
      have HA : Hid (∀ u, Fr w6 u → ReadsB u (some ⟨gb, 0, none⟩) (J.take k)) := fun u f => (hr0.fr f).take k
      obtain ⟨ad, had, hB⟩ : ∃ ad : Addr, (if cb = k + 1 then some (⟨gb, 0, none⟩ : Addr) else some ⟨gb, k + 1, none⟩) = some ad ∧ ∀ u, Fr w6 u → ReadsB u (some ad) (J.drop (k + 1)) := by
        by_cases hq : cb = k + 1
        · rw [if_pos hq]
          refine ⟨_, rfl, fun u f => ?_⟩
          rw [List.drop_eq_nil_of_le (by rw [HN.out]; omega)]
          exact ReadsB.nil _ _
        · rw [if_neg hq]
          exact ⟨_, rfl, fun u f => (hr0.fr f).drop (k + 1) HN.out (by omega)⟩
      have HB : Hid (∀ u, Fr w6 u → ReadsB u (some ad) (J.drop (k + 1))) := hB
      clear hB
      have hwk : IntKind.i64.wrap ((k : Int) + 1) = (k : Int) + 1 := by rw [IntKind.wrap_i64]; omega
      have oe := (ownB_empty w6 w6.heap.size (Nat.le_refl _)).fr (Fr.drew _)
      have hk1 : k ≤ cb := by omega
      have hk2 : k + 1 ≤ N := by omega
      have hk3 : (k : Int) + 1 ≤ (N : Int) := by omega
      have hk4 : (0 : Int) ≤ (k : Int) + 1 := by omega
      clear hr0 ob c6
      go_wp2_with fail
      go_region_law (first
        | (refine step_appB rfl (.tmp 53) (.tmp 56) rfl w6.heap.size (.slice (some ⟨w6.heap.size, 0, none⟩) 0 0) [] (J.take k) (by simp [Act.eval]) oe _ k cb (by simp [Act.eval]) (by simp [HN.out]; omega) (HA.out _ ((Fr.alloc w6 _).trans (Fr.drew _))) (by simp [HN.out]; omega) (by simp) ?_; intro v7 w7 hv7 hg7)
        | (refine step_appB rfl (.tmp 57) (.tmp 61) rfl w6.heap.size v7 (J.take k) (J.drop (k + 1)) (by simp [Act.eval]) hv7 ad (N - (k + 1)) (cb - (k + 1)) (by simp [Act.eval]) (by simp [HN.out]) (HB.out _ (((Fr.alloc w6 _).trans (Fr.drew _)).then hg7 (fun j hj => by simp only [Value.ownBlock, Option.some.injEq] at hj; omega))) (by simp [HN.out]; omega) (by have := hg7.size; simp at this; omega) ?_; intro v8 w8 hv8 hg8))
      have hb7 := hv7.blk
      have F8 := ((F6.trans ((Fr.alloc w6 (.cells #[] 5)).trans (Fr.drew _))).then hg7 (fun j hj => by simp only [Value.ownBlock, Option.some.injEq] at hj; have := F6.size; omega)).then hg8 (fun j hj => by have := hb7 j hj; have := F6.size; omega)
      obtain ⟨L, hL⟩ : ∃ L, L = J.take k ++ J.drop (k + 1) := ⟨_, rfl⟩
      have hLl : L.length ≤ 16777216 := by rw [hL]; simp [HN.out]; omega
      rw [← hL] at hv8
      clear hL
      obtain ⟨g8, c8, rfl, o8⟩ := hv8
      have t8 := ownB_lt o8
      have hc8 := (ownB_cap o8).2
      go_wp2_with fail
      go_ret
      exact ⟨_, _, _, rfl, ⟨L, rfl, o8.reads⟩, hc8, hLl, fun j hj => by simp only [blk, Option.map_some, Option.some.injEq] at hj; omega, F8⟩
  · have hd : decide ((0 : Int) < (N : Int)) = false := decide_eq_false (by omega)
    obtain rfl : N = 0 := by omega
    go_wp2_with fail
    go_ret
    exact HD.out _ (Fr.refl _)
end Go.Proofs.YtnekojcgbokhpaaDoor
