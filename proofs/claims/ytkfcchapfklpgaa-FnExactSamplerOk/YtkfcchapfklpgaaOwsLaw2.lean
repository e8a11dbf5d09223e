/-
  The laws' own functions on samplers: a copy of a list, marks.
-/
import Derived.Test.YtkfcchapfklpgaaOwsLaw
namespace Go.Proofs.Ytkfcchapfklpgaa
open Go.RowKit

theorem Try.infoOw : (Try.prog.info? 53).map (fun i => (i.zero, i.size, i.bytes)) = some (some (.agg #[.int .i64 0, .int .i64 0, .int .i64 0, .int .i64 0, .int .i64 0]), 5, 40) := by kernel_rfl
theorem set5o (A B : List Value) (m0 m1 m2 m3 m4 a0 a1 a2 a3 a4 : Value) (n : Nat) (hn : A.length = n) :
    (((((A ++ m0 :: m1 :: m2 :: m3 :: m4 :: B).set n a0).set (n + 1) a1).set (n + 2) a2).set (n + 3) a3).set (n + 4) a4 = A ++ a0 :: a1 :: a2 :: a3 :: a4 :: B := by
  subst hn
  simp
theorem drop5o (L : List Value) (n : Nat) (h : n + 5 ≤ L.length) : ∃ m0 m1 m2 m3 m4, L.drop n = m0 :: m1 :: m2 :: m3 :: m4 :: L.drop (n + 5) := by
  refine ⟨L[n], L[n + 1], L[n + 2], L[n + 3], L[n + 4], ?_⟩
  rw [List.drop_eq_getElem_cons (by omega : n < L.length), List.drop_eq_getElem_cons (by omega : n + 1 < L.length), List.drop_eq_getElem_cons (by omega : n + 1 + 1 < L.length), List.drop_eq_getElem_cons (by omega : n + 1 + 1 + 1 < L.length), List.drop_eq_getElem_cons (by omega : n + 1 + 1 + 1 + 1 < L.length)]
theorem own5o {w : World} {base g n cap : Nat} {e : TypeId} {xs : List Value} (h : w.ownsRow base e 5 (.slice (some ⟨g, 0, none⟩) n cap) n xs) (j : Nat) (a0 a1 a2 a3 a4 : Value) :
    (((((w.setCell ⟨g, j, none⟩ a0).setCell ⟨g, j + 1, none⟩ a1).setCell ⟨g, j + 2, none⟩ a2).setCell ⟨g, j + 3, none⟩ a3).setCell ⟨g, j + 4, none⟩ a4).ownsRow base e 5 (.slice (some ⟨g, 0, none⟩) n cap) n (((((xs.set j a0).set (j + 1) a1).set (j + 2) a2).set (j + 3) a3).set (j + 4) a4) ∧
    w.grownBy (((((w.setCell ⟨g, j, none⟩ a0).setCell ⟨g, j + 1, none⟩ a1).setCell ⟨g, j + 2, none⟩ a2).setCell ⟨g, j + 3, none⟩ a3).setCell ⟨g, j + 4, none⟩ a4) (some g) := by
  have h0 := h.stored j a0
  have h1 := h0.1.stored (j + 1) a1
  have h2 := h1.1.stored (j + 2) a2
  have h3 := h2.1.stored (j + 3) a3
  have h4 := h3.1.stored (j + 4) a4
  exact ⟨h4.1, grown_trans (grown_trans (grown_trans (grown_trans h0.2 h1.2) h2.2) h3.2) h4.2⟩
theorem laid5o (D : List Ow) (M : List Value) (k n : Nat) (hD : D.length = k) (hk : k < n) (hM : M.length = n * 5) (e : Ow) :
    (((((D.flatMap owCells ++ M.drop (k * 5)).set (k * 5) (.int .i64 e.g)).set (k * 5 + 1) (.int .i64 e.f)).set (k * 5 + 2) (.int .i64 e.b.l)).set (k * 5 + 3) (.int .i64 e.b.s)).set (k * 5 + 4) (.int .i64 e.b.g) = (D ++ [e]).flatMap owCells ++ M.drop ((k + 1) * 5) := by
  obtain ⟨m0, m1, m2, m3, m4, hd⟩ := drop5o M (k * 5) (by omega)
  have hl : (D.flatMap owCells).length = k * 5 := by
    have : ∀ D : List Ow, (D.flatMap owCells).length = D.length * 5 := fun D => by
      induction D with
      | nil => rfl
      | cons o D ih => rw [List.flatMap_cons, List.length_append, ih]; simp [owCells]; omega
    rw [this, hD]
  rw [hd, set5o _ _ _ _ _ _ _ _ _ _ _ _ _ hl, show (k + 1) * 5 = k * 5 + 5 by omega, List.flatMap_append]
  simp [owCells]
theorem owFlat_len (D : List Ow) : (D.flatMap owCells).length = D.length * 5 := by
  induction D with
  | nil => rfl
  | cons o D ih => rw [List.flatMap_cons, List.length_append, ih]; simp [owCells]; omega

set_option maxHeartbeats 1000000 in
theorem toOws_any (ao : Option Addr) (n cap : Nat) (es : List Ow) (w : World) (hn : es.length = n) (h : ReadsG LO w ao es) :
    Calls Try.prog 27 #[.slice ao n cap] w fun e w' => ∃ v, e = .returned v ∧ OwnG LO w' w.heap.size v es ∧ Fr w w' := by
  subst hn
  have hl := h.len
  obtain ⟨i0, hi, hz0, hz1, hz2⟩ := info_parts Try.infoOw
  go_enter Try.func27, Try.ntmps27
  go_wp2_with (at_make; refine wpList_make_full _ rfl _ _ 31 rfl w.heap.size 53 i0 (.agg #[.int .i64 0, .int .i64 0, .int .i64 0, .int .i64 0, .int .i64 0]) 5 Try.underlying31 hi hz0 hz1 .i64 .i64 _ _ es.length rfl rfl rfl rfl (by rw [hz2]; omega) (by unfold maxLen; omega) (Nat.le_refl _) ?_; intro w1 hown hgrow)
  obtain ⟨M, hM⟩ : ∃ M, M = (madeCells (Value.agg #[.int .i64 0, .int .i64 0, .int .i64 0, .int .i64 0, .int .i64 0]).cells (es.length * 5)).toList := ⟨_, rfl⟩
  rw [← hM] at hown
  clear hM
  have hMl := hown.1
  clear hi hz0 hz1 hz2
  go_loopw [4] (fun i wr => ∃ k : Nat, k ≤ es.length ∧ i = .int .i64 k ∧ wr.ownsRow w.heap.size 53 5 (.slice (some ⟨w.heap.size, 0, none⟩) es.length es.length) es.length ((es.take k).flatMap owCells ++ M.drop (k * 5)) ∧ Fr w wr) (fun i _ => es.length - (intOf i).toNat)
  case atStart => exact ⟨0, Nat.zero_le _, rfl, by simpa using hown, hgrow⟩
  case round =>
    obtain ⟨k, hk, rfl, ho, hf⟩ := hrel
    clear hown hgrow
    by_cases hlt : k < es.length
    · obtain ⟨b, off, rfl, c0, c1, c2, c3, c4⟩ := ow_at (h.fr hf) k hlt
      have HE : Hid (es.take k ++ [es[k]] = es.take (k + 1)) := (List.take_succ_eq_append_getElem hlt).symm
      obtain ⟨e, he⟩ : ∃ e, e = es[k] := ⟨_, rfl⟩
      rw [← he] at c0 c1 c2 c3 c4 HE
      clear he
      have cT := fun w => toOw_any e w
      go_wp2_with fail
      refine (cT _).mono ?_
      rintro e w5 ⟨rfl, f5⟩
      have ho := ho.kept f5 (by simp [Value.ownBlock])
      have hll : ((es.take k).flatMap owCells ++ M.drop (k * 5)).length = es.length * 5 := ho.1
      have hat : ∀ i, i < 5 → ∃ u, w5.cell? ⟨w.heap.size, k * 5 + i, none⟩ = some u := fun i hi => by
        rw [ho.cellAt (k * 5 + i) (by omega)]
        exact ⟨_, List.getElem?_eq_getElem (by omega)⟩
      obtain ⟨q0, d0⟩ := hat 0 (by omega)
      obtain ⟨q1, d1⟩ := hat 1 (by omega)
      obtain ⟨q2, d2⟩ := hat 2 (by omega)
      obtain ⟨q3, d3⟩ := hat 3 (by omega)
      obtain ⟨q4, d4⟩ := hat 4 (by omega)
      rw [Nat.add_zero] at d0
      have z0 := ho.frozenAt (k * 5)
      have z1 := ho.frozenAt (k * 5 + 1)
      have z2 := ho.frozenAt (k * 5 + 2)
      have z3 := ho.frozenAt (k * 5 + 3)
      have z4 := ho.frozenAt (k * 5 + 4)
      have hst := own5o ho (k * 5) (.int .i64 e.g) (.int .i64 e.f) (.int .i64 e.b.l) (.int .i64 e.b.s) (.int .i64 e.b.g)
      rw [laid5o (es.take k) M k es.length (by rw [List.length_take]; omega) hlt hMl e, HE.out] at hst
      have hsz := hf.size
      clear hat hll ho
      go_wp2_with fail
      go_roundw
      case rel => exact ⟨k + 1, by omega, by go_num, hst.1, (hf.trans f5).then hst.2 (fun j hj => by simp only [Option.some.injEq] at hj; omega)⟩
      case measure => simp [intOf]; omega
    · have ek : k = es.length := by omega
      have hd : M.drop (k * 5) = [] := List.drop_eq_nil_of_le (by rw [hMl, ek]; omega)
      rw [hd, List.append_nil, ek, List.take_length] at ho
      clear hd ek
      go_wp2_with fail
      go_ret
      exact ⟨_, rfl, ⟨_, _, rfl, ho, hl⟩, hf⟩
set_option maxHeartbeats 1000000 in
theorem toSm_any (ao : Option Addr) (n cap : Nat) (os : List Ow) (p u : Int) (w : World) (hn : os.length = n) (h : ReadsG LO w ao os) :
    Calls Try.prog 9 #[.agg #[.slice ao n cap, .int .i64 p, .int .i64 u]] w fun e w' => ∃ g c, e = .returned (.agg #[.slice (some ⟨g, 0, none⟩) n c, .int .i64 p, .int .i64 u]) ∧ OwnG LO w' w.heap.size (.slice (some ⟨g, 0, none⟩) n c) os ∧ Fr w w' := by
  have cT := fun w (h : ReadsG LO w ao os) => toOws_any ao n cap os w hn h
  have f1 := Fr.alloc w (.cells #[.slice ao n cap, .int .i64 p, .int .i64 u] 26)
  obtain ⟨V, hV⟩ : ∃ V, V = w.alloc (.cells #[.slice ao n cap, .int .i64 p, .int .i64 u] 26) := ⟨_, rfl⟩
  have hs : V.heap.size = w.heap.size + 1 := by rw [hV]; simp
  have kA : KyZ V w.heap.size 26 #[.slice ao n cap, .int .i64 p, .int .i64 u] := by rw [hV]; exact heap_alloc_new _ _
  have f2 := Fr.alloc V (.cells #[.slice none 0 0, .int .i64 0, .int .i64 0] 33)
  have kR : KyZ (V.alloc (.cells #[.slice none 0 0, .int .i64 0, .int .i64 0] 33)) (w.heap.size + 1) 33 #[.slice none 0 0, .int .i64 0, .int .i64 0] := by
    have := heap_alloc_new V (.cells #[.slice none 0 0, .int .i64 0, .int .i64 0] 33)
    rwa [hs] at this
  have hs2 : (V.alloc (.cells #[.slice none 0 0, .int .i64 0, .int .i64 0] 33)).heap.size = w.heap.size + 1 + 1 := by simp [hs]
  have kO : KyZ ((V.alloc (.cells #[.slice none 0 0, .int .i64 0, .int .i64 0] 33)).alloc (.cells #[.slice none 0 0, .int .i64 0, .int .i64 0] 33)) (w.heap.size + 1 + 1) 33 #[.slice none 0 0, .int .i64 0, .int .i64 0] := by
    have := heap_alloc_new (V.alloc (.cells #[.slice none 0 0, .int .i64 0, .int .i64 0] 33)) (.cells #[.slice none 0 0, .int .i64 0, .int .i64 0] 33)
    rwa [hs2] at this
  have f3 := Fr.alloc (V.alloc (.cells #[.slice none 0 0, .int .i64 0, .int .i64 0] 33)) (.cells #[.slice none 0 0, .int .i64 0, .int .i64 0] 33)
  rw [← hV] at f1
  replace kA := (kA.fr f2).fr f3
  replace kR := kR.fr f3
  have F := (f1.trans f2).trans f3
  have hR := h.fr F
  have hsU : w.heap.size ≤ ((V.alloc (.cells #[.slice none 0 0, .int .i64 0, .int .i64 0] 33)).alloc (.cells #[.slice none 0 0, .int .i64 0, .int .i64 0] 33)).heap.size := by simp [hs]; omega
  rw [hV] at kA kR kO F hR hsU
  clear f1 f2 f3 hs hs2 hV V h
  obtain ⟨z0, z1, z2⟩ := kA.c3
  go_enter Try.func9, Try.ntmps9
  go_wp2_with fail
  obtain ⟨U, hU⟩ : ∃ U, U = ((w.alloc (.cells #[.slice ao n cap, .int .i64 p, .int .i64 u] 26)).alloc (.cells #[.slice none 0 0, .int .i64 0, .int .i64 0] 33)).alloc (.cells #[.slice none 0 0, .int .i64 0, .int .i64 0] 33) := ⟨_, rfl⟩
  rw [← hU] at kA kR kO F hR hsU z0 z1 z2 ⊢
  clear hU
  refine (cT _ hR).mono ?_
  rintro e u1 ⟨v, rfl, ho, k1⟩
  obtain ⟨g, c, rfl, ho1, hl⟩ := ho
  have hO : OwnG LO u1 w.heap.size (.slice (some ⟨g, 0, none⟩) os.length c) os := OwnG.lower ⟨g, c, rfl, ho1, hl⟩ hsU
  have hgg : U.heap.size ≤ g := (ho1.lt g rfl).1
  rw [hn] at hO ⊢
  have hUz := kO.lt
  have kA := kA.fr k1
  have kR := kR.fr k1
  have kO := kO.fr k1
  obtain ⟨z0, z1, z2⟩ := kA.c3
  obtain ⟨o0, o1, o2⟩ := kO.c3
  have of := fun i => kO.free i
  have F := F.trans k1
  have s1 := ((kO.put0 (.slice (some ⟨g, 0, none⟩) n c)).put1 (.int .i64 p)).put2 (.int .i64 u)
  have g1 := grown_trans (grown_trans (grown_set u1 (w.heap.size + 1 + 1) 0 (.slice (some ⟨g, 0, none⟩) n c)) (grown_set _ (w.heap.size + 1 + 1) 1 (.int .i64 p))) (grown_set _ (w.heap.size + 1 + 1) 2 (.int .i64 u))
  clear ho1
  obtain ⟨K, hK⟩ : ∃ K, K = ((u1.setCell ⟨w.heap.size + 1 + 1, 0, none⟩ (.slice (some ⟨g, 0, none⟩) n c)).setCell ⟨w.heap.size + 1 + 1, 1, none⟩ (.int .i64 p)).setCell ⟨w.heap.size + 1 + 1, 2, none⟩ (.int .i64 u) := ⟨_, rfl⟩
  rw [← hK] at s1 g1
  have HZ : Hid (KyZ K (w.heap.size + 1 + 1) 33 #[.slice (some ⟨g, 0, none⟩) n c, .int .i64 p, .int .i64 u] ∧ Fr w K ∧ KyZ K (w.heap.size + 1) 33 #[.slice none 0 0, .int .i64 0, .int .i64 0] ∧ OwnG LO K w.heap.size (.slice (some ⟨g, 0, none⟩) n c) os ∧ w.heap.size + 1 < g) := ⟨s1, F.then g1 (fun j e => by cases e; omega), kR.keep g1 (by simp), hO.keep g1 (by simp [Value.ownBlock]; omega), by omega⟩
  rw [hK] at HZ
  clear s1 g1 kR kO F hK K hO kA hR hUz hsU hgg k1 cT
  go_upto_region 5 with fail
  obtain ⟨u2, hu2⟩ : ∃ u2, u2 = ((u1.setCell ⟨w.heap.size + 1 + 1, 0, none⟩ (.slice (some ⟨g, 0, none⟩) n c)).setCell ⟨w.heap.size + 1 + 1, 1, none⟩ (.int .i64 p)).setCell ⟨w.heap.size + 1 + 1, 2, none⟩ (.int .i64 u) := ⟨_, rfl⟩
  rw [← hu2] at HZ ⊢
  clear hu2 o0 o1 o2 of z0 z1 z2
  obtain ⟨kO, F, kR, hO, hgg⟩ := HZ.out
  obtain ⟨o0, o1, o2⟩ := kO.c3
  obtain ⟨r0, r1, r2⟩ := kR.c3
  have rf := fun i => kR.free i
  have kQ := ((kR.put0 (.slice (some ⟨g, 0, none⟩) n c)).put1 (.int .i64 p)).put2 (.int .i64 u)
  have g2 := grown_trans (grown_trans (grown_set u2 (w.heap.size + 1) 0 (.slice (some ⟨g, 0, none⟩) n c)) (grown_set _ (w.heap.size + 1) 1 (.int .i64 p))) (grown_set _ (w.heap.size + 1) 2 (.int .i64 u))
  obtain ⟨q0, q1, q2⟩ := kQ.c3
  clear kO kR kQ
  go_wp2_with fail
  refine bodyPost_ret (v := .agg #[.slice (some ⟨g, 0, none⟩) n c, .int .i64 p, .int .i64 u]) (by simp [results, Try.results9, go_sem, q0, q1, q2]) rfl ⟨g, c, rfl, hO.keep g2 (by simp [Value.ownBlock]; omega), F.then g2 (fun j e => by cases e; omega)⟩
end Go.Proofs.Ytkfcchapfklpgaa
