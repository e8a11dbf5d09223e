/-
  Pack AX: ScDo.
-/
import Derived.Test.YtcofhmikdkkigaaGreatDoorPfAM
import Derived.Test.YtcofhmikdkkigaaGreatDoorPfAQ
import Derived.Test.YtcofhmikdkkigaaGreatDoorPfAV
import Derived.Test.YtcofhmikdkkigaaGreatDoorPfAW
import Derived.Deep.RegionHeld3
namespace Go.Proofs.YtcofhmikdkkigaaGreatDoor
open Go.RowKit

theorem rowB_up {α : Type} {p : α → Bool} {o : α → Int} {xs : List α} (h : rowB p o xs = true) (h0 : ∀ x, p x = true → 0 ≤ o x ∧ o x ≤ 15) : xs.length ≤ 16 := by
  have hj : ∀ j (hj : j < xs.length), (j : Int) ≤ o xs[j] := by
    intro j
    induction j with
    | zero => intro hj; exact (h0 _ (rowB_all h _ (List.getElem_mem hj))).1
    | succ j ih =>
      intro hj
      have h1 := ih (by omega)
      rw [rowB, List.all_eq_true] at h
      have h2 := h (j + 1) (List.mem_range.2 hj)
      by_cases hle : o xs[j + 1] ≤ o xs[j]
      · rw [rowAt_down hj hle] at h2; cases h2
      · omega
  by_cases hl : xs.length ≤ 16
  · exact hl
  · have h1 := hj 16 (by omega)
    have h2 := (h0 _ (rowB_all h _ (List.getElem_mem (show 16 < xs.length by omega)))).2
    omega
theorem lkB_o {g : Int} {l : Lk} (h : lkB g l = true) : 0 ≤ l.o ∧ l.o ≤ 15 := by
  unfold lkB at h
  simp only [Bool.and_eq_true] at h
  exact inB_true h.2.1
theorem scB_lens {m : Scn} (h : scB m = true) : m.ls.length ≤ 16 ∧ m.cs.length ≤ 16 ∧ m.gs.length ≤ 16 ∧ m.os.length ≤ 16 := by
  obtain ⟨_, h1, h2, h3, h4⟩ := scB_parts h
  exact ⟨rowB_up h1 (fun x hx => lkB_o hx), rowB_up h2 (fun x hx => (chB_in hx).1), rowB_up h3 (fun x hx => (ctB_in hx).1), rowB_up h4 (fun x hx => inB_true hx)⟩
theorem fitB_in {b : Bool} {n lo hi : Int} (h : fitB b n lo hi = true) (h0 : 0 ≤ lo) (h1 : hi ≤ 65535) : 0 ≤ n ∧ n ≤ 65535 := by
  unfold fitB at h
  split at h
  · have := inB_true h; omega
  · have := beq_iff_eq.1 h; omega
theorem evOk_in {e : Ev} (h : evOk e = true) : (0 ≤ e.o ∧ e.o ≤ 65535) ∧ (0 ≤ e.w ∧ e.w ≤ 65535) ∧ 0 ≤ e.s ∧ e.s ≤ 65535 := by
  unfold evOk at h
  simp only [Bool.and_eq_true] at h
  obtain ⟨⟨⟨⟨⟨⟨⟨_, _⟩, h1⟩, h2⟩, h3⟩, h4⟩, _⟩, _⟩ := h
  have hs : 0 ≤ loV e.k ∧ hiV e.k ≤ 65535 := by
    unfold loV hiV
    constructor
    · split <;> omega
    · repeat (split <;> try omega)
  exact ⟨fitB_in h1 (by decide) (by decide), fitB_in h2 (by decide) (by decide), fitB_in h4 hs.1 hs.2⟩

theorem chanOf_o (cs : List Ch) (o : Int) : (chanOf cs o).o = o := by
  unfold chanOf
  cases hf : cs.find? fun l => l.o == o with
  | none => rfl
  | some c => simpa using List.find?_some hf
theorem rd_len {g : Int} {xs : List Int} (h : rdB g xs = true) (hg : g ≤ 16) : xs.length ≤ 16 := by
  rw [rdB, List.all_eq_true] at h
  have h1 : ∀ j, j < xs.length → 0 ≤ xs.getD j 0 ∧ xs.getD j 0 ≤ g - 1 ∧ (0 < j → xs.getD (j - 1) 0 < xs.getD j 0) := by
    intro j hj
    have h2 := h j (List.mem_range.2 hj)
    unfold rdAt at h2
    simp only [Bool.and_eq_true, Bool.or_eq_true, decide_eq_true_eq] at h2
    have h3 := inB_true h2.1
    refine ⟨h3.1, h3.2, fun h0 => ?_⟩
    rcases h2.2 with h4 | h4
    · omega
    · exact h4
  have hj : ∀ j, j < xs.length → (j : Int) ≤ xs.getD j 0 := by
    intro j
    induction j with
    | zero => intro hj; exact (h1 0 hj).1
    | succ j ih =>
      intro hj
      have h2 := ih (by omega)
      have h3 := (h1 (j + 1) hj).2.2 (by omega)
      simp only [Nat.add_sub_cancel] at h3
      omega
  by_cases hl : xs.length ≤ 16
  · exact hl
  · have h2 := hj 16 (by omega)
    have h3 := (h1 16 (by omega)).2.1
    omega
theorem lock_rd {m : Scn} (h : scB m = true) (o : Int) : (lockOf m.ls o).rd.length ≤ 16 := by
  have h3 := (scB_parts h).2.1
  have hg := inB_true (scB_parts h).1
  unfold lockOf
  cases hf : m.ls.find? fun l => l.o == o with
  | none => simp
  | some c =>
    have hm := List.mem_of_find?_eq_some hf
    have h4 := rowB_all h3 c hm
    unfold lkB at h4
    simp only [Bool.and_eq_true] at h4
    simpa using rd_len h4.1 hg.2
theorem withL_len (xs : List Int) (x : Int) : (withL xs x).length ≤ 2 * xs.length + 1 := by
  have := inP_len xs x xs.length (Nat.le_refl _)
  rw [List.take_length] at this
  unfold withL
  split
  · omega
  · simp; omega

theorem do_fin {B Bx : Nat → Prop} {w u : World} {s : Sv} {m : Scn} {rb : Nat} (h : ScR Bx u s m) (hx : ¬ Bx rb) (hB : ∀ b, Bx b → Grew B w u b) (hr : w.heap.size ≤ rb) (f : Fr w u) (v0 v1 v2 v3 v4 : Value) :
    ScR (Grew B w (((((u.setCell ⟨rb, 0, none⟩ v0).setCell ⟨rb, 1, none⟩ v1).setCell ⟨rb, 2, none⟩ v2).setCell ⟨rb, 3, none⟩ v3).setCell ⟨rb, 4, none⟩ v4)) (((((u.setCell ⟨rb, 0, none⟩ v0).setCell ⟨rb, 1, none⟩ v1).setCell ⟨rb, 2, none⟩ v2).setCell ⟨rb, 3, none⟩ v3).setCell ⟨rb, 4, none⟩ v4) s m ∧
    Fr w (((((u.setCell ⟨rb, 0, none⟩ v0).setCell ⟨rb, 1, none⟩ v1).setCell ⟨rb, 2, none⟩ v2).setCell ⟨rb, 3, none⟩ v3).setCell ⟨rb, 4, none⟩ v4) := by
  have k := put5 u rb v0 v1 v2 v3 v4
  refine ⟨(h.keep k (fun j hj => ?_)).mono (fun b hb => ?_), f.then k (one_blk hr)⟩
  · cases hj; exact hx
  · exact Grew.wide (Nat.le_refl _) k.size b (hB b hb)

set_option maxRecDepth 20000 in
set_option maxHeartbeats 8000000 in
theorem l4Do_any {B : Nat → Prop} (s : Sv) (m : Scn) (e : Ev) (w : World) (hm : scB m = true) (he : evOk e = true) (hlt : ∀ b, B b → b < w.heap.size) (h : ScR B w s m) :
    Calls Tryz.prog 129 #[.agg #[.int .i64 s.g, .slice s.lo s.ll s.lc, .slice s.co s.cl s.cc, .slice s.no s.nl s.nc, .slice s.oo s.ol s.oc], .agg #[.int .i64 e.k, .int .i64 e.g, .int .i64 e.o, .int .i64 e.w, .int .i64 e.l, .int .i64 e.s, .int .i64 e.f, .int .i64 e.t]] w fun x w' => ∃ s' : Sv, x = .returned (.agg #[.int .i64 s'.g, .slice s'.lo s'.ll s'.lc, .slice s'.co s'.cl s'.cc, .slice s'.no s'.nl s'.nc, .slice s'.oo s'.ol s'.oc]) ∧ ScR (Grew B w w') w' s' (doS m e) ∧ Fr w w' := by
  have hkk := evOk_k he
  have hei := evOk_in he
  have hin := chan_in hm e.o
  have hcn := count_in hm e.o
  obtain ⟨C, hC⟩ : ∃ C, C = countOf m.gs e.o := ⟨_, rfl⟩
  rw [← hC] at hcn
  have HCC : Hid (countOf m.gs e.o = C) := hC.symm
  clear hC
  have hlen := scB_lens hm
  have hrd := lock_rd hm e.o
  have HG : Hid (0 ≤ m.g ∧ m.g ≤ 16) := by
    have := inB_true (scB_parts hm).1
    show 0 ≤ m.g ∧ m.g ≤ 16
    omega
  have hoI : I64 e.o := ⟨by omega, by omega⟩
  obtain ⟨k1, k3, fW, hz, f3⟩ := box3 w s (.cells #[.int .i64 e.k, .int .i64 e.g, .int .i64 e.o, .int .i64 e.w, .int .i64 e.l, .int .i64 e.s, .int .i64 e.f, .int .i64 e.t] 31)
  have k2 := (EvB.new (w.alloc (.cells #[.int .i64 s.g, .slice s.lo s.ll s.lc, .slice s.co s.cl s.cc, .slice s.no s.nl s.nc, .slice s.oo s.ol s.oc] 29)) e).keep f3 (by simp)
  simp only [World.size_alloc] at k2
  have cL := fun u (hf : Fr w u) => l4LockOf_any (B := B) s m e.o u hoI (h.fr hf)
  have cC := fun u (hf : Fr w u) => l4ChanOf_any (B := B) s m e.o u (h.fr hf)
  have HR : Hid (ScR B w s m) := h
  have HSG : Hid (s.g = m.g) := h.g
  clear h hm he
  obtain ⟨k, gr, o, wi, l, sz, f, t⟩ := e
  obtain ⟨g, lo, ll, lc, co, cl, cc, no, nl, nc, oo, ol, oc⟩ := s
  simp only at hkk hei hrd hin hcn HCC hoI k1 k2 k3 fW hz f3 cL cC HSG HR ⊢
  obtain ⟨D, hD⟩ : ∃ D, D = doS m ⟨k, gr, o, wi, l, sz, f, t⟩ := ⟨_, rfl⟩
  rw [← hD]
  have HD : Hid (D = doS m ⟨k, gr, o, wi, l, sz, f, t⟩) := hD
  clear hD f3
  have HL : Hid (lockOf m.ls o = lockOf m.ls o) := rfl
  obtain ⟨L, hL⟩ : ∃ L, L = lockOf m.ls o := ⟨_, rfl⟩
  obtain ⟨X, hX⟩ : ∃ X, X = chanOf m.cs o := ⟨_, rfl⟩
  have HLL : Hid (lockOf m.ls o = L) := hL.symm
  have HXX : Hid (chanOf m.cs o = X) := hX.symm
  simp only [← hL, ← hX] at cL cC hin
  clear hL hX HL
  have HXO : Hid (X.o = o) := by rw [← HXX.out]; exact chanOf_o m.cs o
  have HLR : Hid (L.rd.length ≤ 16) := by rw [← HLL.out]; exact hrd
  clear hrd
  obtain ⟨xo, xc, xs, xg, xl⟩ := X
  simp only at cC hin
  go_enter Tryz.func129, Tryz.ntmps129
  go_wp2_with fail
  obtain ⟨W, hW⟩ : ∃ W, W = ((w.alloc (.cells #[.int .i64 g, .slice lo ll lc, .slice co cl cc, .slice no nl nc, .slice oo ol oc] 29)).alloc (.cells #[.int .i64 k, .int .i64 gr, .int .i64 o, .int .i64 wi, .int .i64 l, .int .i64 sz, .int .i64 f, .int .i64 t] 31)).alloc (.cells #[.int .i64 0, .slice none 0 0, .slice none 0 0, .slice none 0 0, .slice none 0 0] 29) := ⟨_, rfl⟩
  rw [← hW] at k1 k2 k3 fW hz ⊢
  obtain ⟨b0, hbb⟩ : ∃ b0, b0 = w.heap.size := ⟨_, rfl⟩
  rw [← hbb] at k1 k2 k3 hz ⊢
  have HB : Hid (b0 = w.heap.size) := hbb
  have k3 : ScK W (b0 + 1 + 1) ⟨0, none, 0, 0, none, 0, 0, none, 0, 0, none, 0, 0⟩ := k3
  have HQ : Hid (∀ u, Fr W u → ScB u b0 ⟨g, lo, ll, lc, co, cl, cc, no, nl, nc, oo, ol, oc⟩ ∧ EvAt u (b0 + 1) ⟨k, gr, o, wi, l, sz, f, t⟩) := fun u f => ⟨(k1.fr f).at, k2.at.fr f⟩
  clear hW hbb
  refine (cL _ fW).mono ?_
  rintro x u1 ⟨⟨lo', lw, lr, ln, lq⟩, rfl, hlv, f1⟩
  have fA := f1.trans (Fr.alloc u1 (.cells #[.int .i64 lo', .int .i64 lw, .slice lr ln lq] 86))
  obtain ⟨⟨s0, s1, s2, s3, s4⟩, ⟨e0, e1, e2, e3, e4, e5, e6, e7⟩⟩ := HQ.out _ fA
  simp only at s0 s1 s2 s3 s4 e0 e1 e2 e3 e4 e5 e6 e7
  clear cL
  go_wp2_with fail
  refine (cC _ (fW.trans fA)).mono ?_
  rintro x u2 ⟨rfl, f2⟩
  clear s0 s1 s2 s3 s4 e0 e1 e2 e3 e4 e5 e6 e7 cC
  go_upto_region 3 with fail
  have f3 := fA.trans (f2.trans (Fr.alloc u2 (.cells #[.int .i64 xo, .int .i64 xc, .int .i64 xs, .int .i64 xg, .bool xl] 89)))
  have kl := ((LvK.new u1 ⟨lo', lw, lr, ln, lq⟩).keep f2 (by simp)).keep (Fr.alloc u2 (.cells #[.int .i64 xo, .int .i64 xc, .int .i64 xs, .int .i64 xg, .bool xl] 89)) (by simp)
  have kc := ChK.new u2 ⟨xo, xc, xs, xg, xl⟩
  have hlv := (hlv.fr ((Fr.alloc u1 (.cells #[.int .i64 lo', .int .i64 lw, .slice lr ln lq] 86)).trans f2)).fr (Fr.alloc u2 (.cells #[.int .i64 xo, .int .i64 xc, .int .i64 xs, .int .i64 xg, .bool xl] 89))
  simp only at kl kc
  have hW1 := (f1.size)
  have hW2 := (Fr.alloc u1 (.cells #[.int .i64 lo', .int .i64 lw, .slice lr ln lq] 86)).size
  have hW3 := f2.size
  have hW4 : u1.heap.size < (u1.alloc (.cells #[.int .i64 lo', .int .i64 lw, .slice lr ln lq] 86)).heap.size := by simp
  obtain ⟨V, hV⟩ : ∃ V, V = u2.alloc (.cells #[.int .i64 xo, .int .i64 xc, .int .i64 xs, .int .i64 xg, .bool xl] 89) := ⟨_, rfl⟩
  rw [← hV] at kl kc f3 hlv ⊢
  obtain ⟨lb, hlb⟩ : ∃ lb, lb = u1.heap.size := ⟨_, rfl⟩
  obtain ⟨cb, hcb⟩ : ∃ cb, cb = u2.heap.size := ⟨_, rfl⟩
  rw [← hlb] at kl ⊢
  rw [← hcb] at kc ⊢
  have HN : Hid (b0 + 3 ≤ lb ∧ lb < cb ∧ cb < V.heap.size) := by
    show b0 + 3 ≤ lb ∧ lb < cb ∧ cb < V.heap.size
    have := kc.lt
    omega
  have k1 := k1.fr f3
  have k2 := k2.keep f3 (by simp)
  have k3 := k3.fr f3
  have fV := fW.trans f3
  have HR : Hid (ScR B V ⟨g, lo, ll, lc, co, cl, cc, no, nl, nc, oo, ol, oc⟩ m) := HR.out.fr fV
  have HLV : Hid (LkR B V ⟨lo', lw, lr, ln, lq⟩ L) := hlv
  have HLT : Hid (∀ b, B b → b < b0) := by rw [HB.out]; exact hlt
  clear hV hlb hcb hW1 hW2 hW3 hW4 f1 f2 fA hlv fW f3 HQ hlt hz
  rcases (show k = 1 ∨ k = 2 ∨ k = 3 ∨ k = 4 ∨ k = 5 ∨ k = 6 ∨ k = 7 ∨ k = 8 ∨ k = 9 ∨ k = 10 ∨ k = 11 ∨ k = 12 ∨ k = 13 ∨ k = 14 ∨ k = 15 ∨ k = 16 ∨ k = 17 ∨ k = 18 ∨ k = 19 ∨ k = 20 ∨ k = 21 ∨ k = 22 by omega) with rfl | rfl | rfl | rfl | rfl | rfl | rfl | rfl | rfl | rfl | rfl | rfl | rfl | rfl | rfl | rfl | rfl | rfl | rfl | rfl | rfl | rfl
  · have hgr := hkk.2
    clear hkk
    have HE : Hid (D = { m with g := m.g + 1 }) := by
      show D = _
      rw [HD.out]
      simp [doS]
    clear HD
    have q1 := k1.setG (g + 1)
    have q3 := k3.keep (grown_set V b0 0 (.int .i64 (g + 1))) (by simp only [ne_eq, Option.some.injEq]; omega)
    have hgw : IntKind.i64.wrap (g + 1) = g + 1 := by rw [IntKind.wrap_i64]; have := HG.out; have := HSG.out; omega
    have hfz := k1.free 0
    obtain ⟨t0, t1, t2, t3, t4⟩ := k1.at
    simp only at t0 t1 t2 t3 t4
    obtain ⟨s0, s1, s2, s3, s4⟩ := q1.at
    simp only at s0 s1 s2 s3 s4
    obtain ⟨e0, e1, e2, e3, e4, e5, e6, e7⟩ := k2.at
    simp only at e0 e1 e2 e3 e4 e5 e6 e7
    obtain ⟨j0, j1, j2, j3, j4⟩ := q3.at
    simp only at j0 j1 j2 j3 j4
    have jf := fun i => q3.free i
    have HS : Hid (ScR B (V.setCell ⟨b0, 0, none⟩ (.int .i64 (g + 1))) ⟨g + 1, lo, ll, lc, co, cl, cc, no, nl, nc, oo, ol, oc⟩ { m with g := m.g + 1 }) := by
      have h := HR.out.keep (grown_set V b0 0 (.int .i64 (g + 1))) (fun j hj => by cases hj; intro q; have := HLT.out _ q; omega)
      exact { h with g := by show g + 1 = m.g + 1; rw [HSG.out], ig := by have := HG.out; exact ⟨by show _ ≤ m.g + 1; omega, by show m.g + 1 ≤ _; omega⟩ }
    have HF : Hid (Fr w (V.setCell ⟨b0, 0, none⟩ (.int .i64 (g + 1)))) := fV.then (grown_set V b0 0 _) (one_blk (Nat.le_of_eq HB.out.symm))
    clear q1 q3
    go_wp2_with fail
    refine bodyPost_ret (v := .agg #[.int .i64 (g + 1), .slice lo ll lc, .slice co cl cc, .slice no nl nc, .slice oo ol oc]) (by simp [results, Tryz.results129, go_sem, j0, j1, j2, j3, j4]) rfl ⟨⟨g + 1, lo, ll, lc, co, cl, cc, no, nl, nc, oo, ol, oc⟩, rfl, ?_, ?_⟩
    · rw [HE.out]
      exact (do_fin HS.out (fun q => by have := HLT.out _ q; omega) (fun _ q => .inl q) (by have := HB.out; omega) HF.out _ _ _ _ _).1
    · exact (do_fin HS.out (fun q => by have := HLT.out _ q; omega) (fun _ q => .inl q) (by have := HB.out; omega) HF.out _ _ _ _ _).2
  · have hgr := hkk.2
    clear hkk
    have HE : Hid (D = setLk m { L with wr := gr }) := by
      show D = _
      rw [HD.out]
      simp [doS, lockTo, HLL.out]
    clear HD
    have gs := grown_set V lb 1 (.int .i64 gr)
    have q1 := k1.keep gs (by simp only [ne_eq, Option.some.injEq]; have := HN.out; omega)
    have q3 := k3.keep gs (by simp only [ne_eq, Option.some.injEq]; have := HN.out; omega)
    have q4 := kl.setW gr
    have hfz := kl.free 1
    have hlo := kl.at.2.1
    have HKL : Hid (LkR B (V.setCell ⟨lb, 1, none⟩ (.int .i64 gr)) ⟨lo', gr, lr, ln, lq⟩ { L with wr := gr }) := by
      have h := HLV.out.keep gs (fun j hj => by cases hj; intro q; have := HLT.out _ q; have := HN.out; omega)
      exact { h with wr := rfl, iw := ⟨by show _ ≤ gr; omega, by show gr ≤ _; omega⟩ }
    have HS : Hid (ScR B (V.setCell ⟨lb, 1, none⟩ (.int .i64 gr)) ⟨g, lo, ll, lc, co, cl, cc, no, nl, nc, oo, ol, oc⟩ m) := HR.out.keep gs (fun j hj => by cases hj; intro q; have := HLT.out _ q; have := HN.out; omega)
    have cS := l4SetLock_any ⟨g, lo, ll, lc, co, cl, cc, no, nl, nc, oo, ol, oc⟩ m ⟨lo', gr, lr, ln, lq⟩ { L with wr := gr } (V.setCell ⟨lb, 1, none⟩ (.int .i64 gr)) (by omega) HKL.out HS.out
    simp only at cS hlo
    have HF : Hid (Fr w (V.setCell ⟨lb, 1, none⟩ (.int .i64 gr))) := fV.then gs (one_blk (by have := HN.out; have := HB.out; omega))
    have HZ : Hid (b0 + 3 ≤ (V.setCell ⟨lb, 1, none⟩ (.int .i64 gr)).heap.size) := by
      show b0 + 3 ≤ (V.setCell ⟨lb, 1, none⟩ (.int .i64 gr)).heap.size
      have := gs.size; have := HN.out; omega
    obtain ⟨s0, s1, s2, s3, s4⟩ := q1.at
    simp only at s0 s1 s2 s3 s4
    obtain ⟨l0, l1, l2⟩ := q4.at
    simp only at l0 l1 l2
    obtain ⟨e0, e1, e2, e3, e4, e5, e6, e7⟩ := k2.at
    simp only at e0 e1 e2 e3 e4 e5 e6 e7
    clear q1 q4 gs
    go_wp2_with fail
    refine cS.mono ?_
    rintro x u4 ⟨⟨g', lo1, ll1, lc1, co1, cl1, cc1, no1, nl1, nc1, oo1, ol1, oc1⟩, rfl, hS, f4⟩
    clear cS s0 s1 s2 s3 s4 l0 l1 l2 e0 e1 e2 e3 e4 e5 e6 e7 hfz hlo
    have q3 := q3.fr f4
    obtain ⟨j0, j1, j2, j3, j4⟩ := q3.at
    simp only at j0 j1 j2 j3 j4
    have jf := fun i => q3.free i
    go_wp2_with fail
    refine bodyPost_ret (v := .agg #[.int .i64 g', .slice lo1 ll1 lc1, .slice co1 cl1 cc1, .slice no1 nl1 nc1, .slice oo1 ol1 oc1]) (by simp [results, Tryz.results129, go_sem, j0, j1, j2, j3, j4]) rfl ⟨⟨g', lo1, ll1, lc1, co1, cl1, cc1, no1, nl1, nc1, oo1, ol1, oc1⟩, rfl, ?_, ?_⟩
    · rw [HE.out]
      exact (do_fin hS (fun q => by rcases q with q | ⟨q, _⟩; · { have := HLT.out _ q; omega }; · { have := HZ.out; omega }) (fun b q => Grew.wide HF.out.size (Nat.le_refl _) b q) (by have := HB.out; omega) (HF.out.trans f4) _ _ _ _ _).1
    · exact (do_fin hS (fun q => by rcases q with q | ⟨q, _⟩; · { have := HLT.out _ q; omega }; · { have := HZ.out; omega }) (fun b q => Grew.wide HF.out.size (Nat.le_refl _) b q) (by have := HB.out; omega) (HF.out.trans f4) _ _ _ _ _).2
  · have hgr := hkk.2
    clear hkk
    have HE : Hid (D = setLk m { L with wr := (-1) }) := by
      show D = _
      rw [HD.out]
      simp [doS, lockTo, HLL.out]
    clear HD
    have gs := grown_set V lb 1 (.int .i64 (-1))
    have q1 := k1.keep gs (by simp only [ne_eq, Option.some.injEq]; have := HN.out; omega)
    have q3 := k3.keep gs (by simp only [ne_eq, Option.some.injEq]; have := HN.out; omega)
    have q4 := kl.setW (-1)
    have hfz := kl.free 1
    have hlo := kl.at.2.1
    have HKL : Hid (LkR B (V.setCell ⟨lb, 1, none⟩ (.int .i64 (-1))) ⟨lo', (-1), lr, ln, lq⟩ { L with wr := (-1) }) := by
      have h := HLV.out.keep gs (fun j hj => by cases hj; intro q; have := HLT.out _ q; have := HN.out; omega)
      exact { h with wr := rfl, iw := i64_m1 }
    have HS : Hid (ScR B (V.setCell ⟨lb, 1, none⟩ (.int .i64 (-1))) ⟨g, lo, ll, lc, co, cl, cc, no, nl, nc, oo, ol, oc⟩ m) := HR.out.keep gs (fun j hj => by cases hj; intro q; have := HLT.out _ q; have := HN.out; omega)
    have cS := l4SetLock_any ⟨g, lo, ll, lc, co, cl, cc, no, nl, nc, oo, ol, oc⟩ m ⟨lo', (-1), lr, ln, lq⟩ { L with wr := (-1) } (V.setCell ⟨lb, 1, none⟩ (.int .i64 (-1))) (by omega) HKL.out HS.out
    simp only at cS hlo
    have HF : Hid (Fr w (V.setCell ⟨lb, 1, none⟩ (.int .i64 (-1)))) := fV.then gs (one_blk (by have := HN.out; have := HB.out; omega))
    have HZ : Hid (b0 + 3 ≤ (V.setCell ⟨lb, 1, none⟩ (.int .i64 (-1))).heap.size) := by
      show b0 + 3 ≤ (V.setCell ⟨lb, 1, none⟩ (.int .i64 (-1))).heap.size
      have := gs.size; have := HN.out; omega
    obtain ⟨s0, s1, s2, s3, s4⟩ := q1.at
    simp only at s0 s1 s2 s3 s4
    obtain ⟨l0, l1, l2⟩ := q4.at
    simp only at l0 l1 l2
    obtain ⟨e0, e1, e2, e3, e4, e5, e6, e7⟩ := k2.at
    simp only at e0 e1 e2 e3 e4 e5 e6 e7
    clear q1 q4 gs
    go_wp2_with fail
    refine cS.mono ?_
    rintro x u4 ⟨⟨g', lo1, ll1, lc1, co1, cl1, cc1, no1, nl1, nc1, oo1, ol1, oc1⟩, rfl, hS, f4⟩
    clear cS s0 s1 s2 s3 s4 l0 l1 l2 e0 e1 e2 e3 e4 e5 e6 e7 hfz hlo
    have q3 := q3.fr f4
    obtain ⟨j0, j1, j2, j3, j4⟩ := q3.at
    simp only at j0 j1 j2 j3 j4
    have jf := fun i => q3.free i
    go_wp2_with fail
    refine bodyPost_ret (v := .agg #[.int .i64 g', .slice lo1 ll1 lc1, .slice co1 cl1 cc1, .slice no1 nl1 nc1, .slice oo1 ol1 oc1]) (by simp [results, Tryz.results129, go_sem, j0, j1, j2, j3, j4]) rfl ⟨⟨g', lo1, ll1, lc1, co1, cl1, cc1, no1, nl1, nc1, oo1, ol1, oc1⟩, rfl, ?_, ?_⟩
    · rw [HE.out]
      exact (do_fin hS (fun q => by rcases q with q | ⟨q, _⟩; · { have := HLT.out _ q; omega }; · { have := HZ.out; omega }) (fun b q => Grew.wide HF.out.size (Nat.le_refl _) b q) (by have := HB.out; omega) (HF.out.trans f4) _ _ _ _ _).1
    · exact (do_fin hS (fun q => by rcases q with q | ⟨q, _⟩; · { have := HLT.out _ q; omega }; · { have := HZ.out; omega }) (fun b q => Grew.wide HF.out.size (Nat.le_refl _) b q) (by have := HB.out; omega) (HF.out.trans f4) _ _ _ _ _).2
  · have hgr := hkk.2
    clear hkk
    have HE : Hid (D = setLk m { L with rd := withL L.rd gr }) := by
      show D = _
      rw [HD.out]
      simp [doS, lockTo, HLL.out]
    clear HD
    have hln := HLV.out.rn
    have cW := l4With_any lr ln lq L.rd gr V hln.symm ⟨by omega, by omega⟩ HLV.out.rd (by have := HLR.out; omega)
    clear hln
    obtain ⟨l0, l1, l2⟩ := kl.at
    simp only at l0 l1 l2
    obtain ⟨e0, e1, e2, e3, e4, e5, e6, e7⟩ := k2.at
    simp only at e0 e1 e2 e3 e4 e5 e6 e7
    go_wp2_with fail
    refine cW.mono ?_
    rintro x u3 ⟨v3, rfl, ⟨gg, cg, rfl, o3⟩, f3⟩
    obtain ⟨nn, hnn⟩ : ∃ nn, nn = (withL L.rd gr).length := ⟨_, rfl⟩
    have HNN : Hid (nn = (withL L.rd gr).length) := hnn
    rw [← hnn] at o3 ⊢
    clear hnn cW l0 l1 l2 e0 e1 e2 e3 e4 e5 e6 e7
    have hgg := own_lt o3
    have k1 := k1.fr f3
    have k3 := k3.fr f3
    have kl := kl.keep f3 (by simp)
    have gs := grown_set u3 lb 2 (.slice (some ⟨gg, 0, none⟩) nn cg)
    have q1 := k1.keep gs (by simp only [ne_eq, Option.some.injEq]; have := HN.out; omega)
    have q3 := k3.keep gs (by simp only [ne_eq, Option.some.injEq]; have := HN.out; omega)
    have q4 := kl.setR (some ⟨gg, 0, none⟩) nn cg
    have hfz := kl.free 2
    have hlo := kl.at.2.2
    have hs3 := f3.size
    have hB2 : ¬ Grew B V u3 lb := by
      rintro (q | ⟨q, _⟩)
      · have := HLT.out _ q; have := HN.out; omega
      · have := HN.out; omega
    have HKL : Hid (LkR (Grew B V u3) (u3.setCell ⟨lb, 2, none⟩ (.slice (some ⟨gg, 0, none⟩) nn cg)) ⟨lo', lw, some ⟨gg, 0, none⟩, nn, cg⟩ { L with rd := withL L.rd gr }) := by
      have h := (HLV.out.fr f3).keep gs (fun j hj => by cases hj; intro q; exact hB2 (.inl q))
      exact { h with rn := HNN.out, rd := o3.reads.keep gs (.inr (by simp [blk]; have := HN.out; omega)), bl := (by intro b hb; simp only [blk, Option.map_some, Option.some.injEq] at hb; subst hb; exact .inr hgg), rc := (fun q => by simp at q), sz := (by have := withL_len L.rd gr; have := HLR.out; show (withL L.rd gr).length ≤ _; omega) }
    have HS : Hid (ScR (Grew B V u3) (u3.setCell ⟨lb, 2, none⟩ (.slice (some ⟨gg, 0, none⟩) nn cg)) ⟨g, lo, ll, lc, co, cl, cc, no, nl, nc, oo, ol, oc⟩ m) := ((HR.out.fr f3).keep gs (fun j hj => by cases hj; intro q; exact hB2 (.inl q))).mono Grew.old
    have cS := l4SetLock_any ⟨g, lo, ll, lc, co, cl, cc, no, nl, nc, oo, ol, oc⟩ m ⟨lo', lw, some ⟨gg, 0, none⟩, nn, cg⟩ { L with rd := withL L.rd gr } (u3.setCell ⟨lb, 2, none⟩ (.slice (some ⟨gg, 0, none⟩) nn cg)) (by omega) HKL.out HS.out
    simp only at cS hlo
    have HF : Hid (Fr w (u3.setCell ⟨lb, 2, none⟩ (.slice (some ⟨gg, 0, none⟩) nn cg))) := (fV.trans f3).then gs (one_blk (by have := HN.out; have := HB.out; omega))
    have hs4 := gs.size
    have HZ : Hid (b0 + 3 ≤ V.heap.size ∧ V.heap.size ≤ (u3.setCell ⟨lb, 2, none⟩ (.slice (some ⟨gg, 0, none⟩) nn cg)).heap.size ∧ u3.heap.size ≤ (u3.setCell ⟨lb, 2, none⟩ (.slice (some ⟨gg, 0, none⟩) nn cg)).heap.size ∧ w.heap.size ≤ V.heap.size) := by
      have := HN.out; have := fV.size
      exact ⟨by omega, by omega, by omega, by omega⟩
    obtain ⟨s0, s1, s2, s3, s4⟩ := q1.at
    simp only at s0 s1 s2 s3 s4
    obtain ⟨l0, l1, l2⟩ := q4.at
    simp only at l0 l1 l2
    clear q1 q4 gs hs3 hs4 hB2 hgg o3
    go_wp2_with fail
    refine cS.mono ?_
    rintro x u4 ⟨⟨g', lo1, ll1, lc1, co1, cl1, cc1, no1, nl1, nc1, oo1, ol1, oc1⟩, rfl, hS, f4⟩
    clear cS s0 s1 s2 s3 s4 l0 l1 l2 hfz hlo
    have q3 := q3.fr f4
    obtain ⟨j0, j1, j2, j3, j4⟩ := q3.at
    simp only at j0 j1 j2 j3 j4
    have jf := fun i => q3.free i
    go_wp2_with fail
    refine bodyPost_ret (v := .agg #[.int .i64 g', .slice lo1 ll1 lc1, .slice co1 cl1 cc1, .slice no1 nl1 nc1, .slice oo1 ol1 oc1]) (by simp [results, Tryz.results129, go_sem, j0, j1, j2, j3, j4]) rfl ⟨⟨g', lo1, ll1, lc1, co1, cl1, cc1, no1, nl1, nc1, oo1, ol1, oc1⟩, rfl, ?_, ?_⟩
    · rw [HE.out]
      exact (do_fin hS (fun q => by rcases q with (q | ⟨q, _⟩) | ⟨q, _⟩; · { have := HLT.out _ q; omega }; · { have := HZ.out; omega }; · { have := HZ.out; omega }) (fun b q => by rcases q with (q | ⟨q, q2⟩) | ⟨q, q2⟩; · { exact .inl q }; · { exact .inr ⟨by have := HZ.out; omega, by have := HZ.out; have := f4.size; omega⟩ }; · { exact .inr ⟨by have := HZ.out; omega, q2⟩ }) (by have := HB.out; omega) (HF.out.trans f4) _ _ _ _ _).1
    · exact (do_fin hS (fun q => by rcases q with (q | ⟨q, _⟩) | ⟨q, _⟩; · { have := HLT.out _ q; omega }; · { have := HZ.out; omega }; · { have := HZ.out; omega }) (fun b q => by rcases q with (q | ⟨q, q2⟩) | ⟨q, q2⟩; · { exact .inl q }; · { exact .inr ⟨by have := HZ.out; omega, by have := HZ.out; have := f4.size; omega⟩ }; · { exact .inr ⟨by have := HZ.out; omega, q2⟩ }) (by have := HB.out; omega) (HF.out.trans f4) _ _ _ _ _).2
  · have hgr := hkk.2
    clear hkk
    have HE : Hid (D = setLk m { L with rd := outL L.rd gr }) := by
      show D = _
      rw [HD.out]
      simp [doS, lockTo, HLL.out]
    clear HD
    have hln := HLV.out.rn
    have cW := l4Without_any lr ln lq L.rd gr V hln.symm HLV.out.rd (by have := HLR.out; omega)
    clear hln
    obtain ⟨l0, l1, l2⟩ := kl.at
    simp only at l0 l1 l2
    obtain ⟨e0, e1, e2, e3, e4, e5, e6, e7⟩ := k2.at
    simp only at e0 e1 e2 e3 e4 e5 e6 e7
    go_wp2_with fail
    refine cW.mono ?_
    rintro x u3 ⟨v3, rfl, ⟨gg, cg, rfl, o3⟩, f3⟩
    obtain ⟨nn, hnn⟩ : ∃ nn, nn = (outL L.rd gr).length := ⟨_, rfl⟩
    have HNN : Hid (nn = (outL L.rd gr).length) := hnn
    rw [← hnn] at o3 ⊢
    clear hnn cW l0 l1 l2 e0 e1 e2 e3 e4 e5 e6 e7
    have hgg := own_lt o3
    have k1 := k1.fr f3
    have k3 := k3.fr f3
    have kl := kl.keep f3 (by simp)
    have gs := grown_set u3 lb 2 (.slice (some ⟨gg, 0, none⟩) nn cg)
    have q1 := k1.keep gs (by simp only [ne_eq, Option.some.injEq]; have := HN.out; omega)
    have q3 := k3.keep gs (by simp only [ne_eq, Option.some.injEq]; have := HN.out; omega)
    have q4 := kl.setR (some ⟨gg, 0, none⟩) nn cg
    have hfz := kl.free 2
    have hlo := kl.at.2.2
    have hs3 := f3.size
    have hB2 : ¬ Grew B V u3 lb := by
      rintro (q | ⟨q, _⟩)
      · have := HLT.out _ q; have := HN.out; omega
      · have := HN.out; omega
    have HKL : Hid (LkR (Grew B V u3) (u3.setCell ⟨lb, 2, none⟩ (.slice (some ⟨gg, 0, none⟩) nn cg)) ⟨lo', lw, some ⟨gg, 0, none⟩, nn, cg⟩ { L with rd := outL L.rd gr }) := by
      have h := (HLV.out.fr f3).keep gs (fun j hj => by cases hj; intro q; exact hB2 (.inl q))
      exact { h with rn := HNN.out, rd := o3.reads.keep gs (.inr (by simp [blk]; have := HN.out; omega)), bl := (by intro b hb; simp only [blk, Option.map_some, Option.some.injEq] at hb; subst hb; exact .inr hgg), rc := (fun q => by simp at q), sz := (by have := outL_len L.rd gr; have := HLR.out; show (outL L.rd gr).length ≤ _; omega) }
    have HS : Hid (ScR (Grew B V u3) (u3.setCell ⟨lb, 2, none⟩ (.slice (some ⟨gg, 0, none⟩) nn cg)) ⟨g, lo, ll, lc, co, cl, cc, no, nl, nc, oo, ol, oc⟩ m) := ((HR.out.fr f3).keep gs (fun j hj => by cases hj; intro q; exact hB2 (.inl q))).mono Grew.old
    have cS := l4SetLock_any ⟨g, lo, ll, lc, co, cl, cc, no, nl, nc, oo, ol, oc⟩ m ⟨lo', lw, some ⟨gg, 0, none⟩, nn, cg⟩ { L with rd := outL L.rd gr } (u3.setCell ⟨lb, 2, none⟩ (.slice (some ⟨gg, 0, none⟩) nn cg)) (by omega) HKL.out HS.out
    simp only at cS hlo
    have HF : Hid (Fr w (u3.setCell ⟨lb, 2, none⟩ (.slice (some ⟨gg, 0, none⟩) nn cg))) := (fV.trans f3).then gs (one_blk (by have := HN.out; have := HB.out; omega))
    have hs4 := gs.size
    have HZ : Hid (b0 + 3 ≤ V.heap.size ∧ V.heap.size ≤ (u3.setCell ⟨lb, 2, none⟩ (.slice (some ⟨gg, 0, none⟩) nn cg)).heap.size ∧ u3.heap.size ≤ (u3.setCell ⟨lb, 2, none⟩ (.slice (some ⟨gg, 0, none⟩) nn cg)).heap.size ∧ w.heap.size ≤ V.heap.size) := by
      have := HN.out; have := fV.size
      exact ⟨by omega, by omega, by omega, by omega⟩
    obtain ⟨s0, s1, s2, s3, s4⟩ := q1.at
    simp only at s0 s1 s2 s3 s4
    obtain ⟨l0, l1, l2⟩ := q4.at
    simp only at l0 l1 l2
    clear q1 q4 gs hs3 hs4 hB2 hgg o3
    go_wp2_with fail
    refine cS.mono ?_
    rintro x u4 ⟨⟨g', lo1, ll1, lc1, co1, cl1, cc1, no1, nl1, nc1, oo1, ol1, oc1⟩, rfl, hS, f4⟩
    clear cS s0 s1 s2 s3 s4 l0 l1 l2 hfz hlo
    have q3 := q3.fr f4
    obtain ⟨j0, j1, j2, j3, j4⟩ := q3.at
    simp only at j0 j1 j2 j3 j4
    have jf := fun i => q3.free i
    go_wp2_with fail
    refine bodyPost_ret (v := .agg #[.int .i64 g', .slice lo1 ll1 lc1, .slice co1 cl1 cc1, .slice no1 nl1 nc1, .slice oo1 ol1 oc1]) (by simp [results, Tryz.results129, go_sem, j0, j1, j2, j3, j4]) rfl ⟨⟨g', lo1, ll1, lc1, co1, cl1, cc1, no1, nl1, nc1, oo1, ol1, oc1⟩, rfl, ?_, ?_⟩
    · rw [HE.out]
      exact (do_fin hS (fun q => by rcases q with (q | ⟨q, _⟩) | ⟨q, _⟩; · { have := HLT.out _ q; omega }; · { have := HZ.out; omega }; · { have := HZ.out; omega }) (fun b q => by rcases q with (q | ⟨q, q2⟩) | ⟨q, q2⟩; · { exact .inl q }; · { exact .inr ⟨by have := HZ.out; omega, by have := HZ.out; have := f4.size; omega⟩ }; · { exact .inr ⟨by have := HZ.out; omega, q2⟩ }) (by have := HB.out; omega) (HF.out.trans f4) _ _ _ _ _).1
    · exact (do_fin hS (fun q => by rcases q with (q | ⟨q, _⟩) | ⟨q, _⟩; · { have := HLT.out _ q; omega }; · { have := HZ.out; omega }; · { have := HZ.out; omega }) (fun b q => by rcases q with (q | ⟨q, q2⟩) | ⟨q, q2⟩; · { exact .inl q }; · { exact .inr ⟨by have := HZ.out; omega, by have := HZ.out; have := f4.size; omega⟩ }; · { exact .inr ⟨by have := HZ.out; omega, q2⟩ }) (by have := HB.out; omega) (HF.out.trans f4) _ _ _ _ _).2
  · have hgr := hkk.2
    clear hkk
    have HE : Hid (D = setCh m ⟨xo, sz, xs, xg, xl⟩) := by
      show D = _
      rw [HD.out]
      simp [doS, chanTo, HXX.out]
    clear HD
    have gs := grown_set V cb 1 (.int .i64 sz)
    have q1 := k1.keep gs (by simp only [ne_eq, Option.some.injEq]; have := HN.out; omega)
    have q3 := k3.keep gs (by simp only [ne_eq, Option.some.injEq]; have := HN.out; omega)
    have q4 := kc.set1 (sz)
    have hfz := kc.free 1
    obtain ⟨c0, c1, c2, c3, c4⟩ := kc.at
    simp only at c0 c1 c2 c3 c4
    have HS : Hid (ScR B (V.setCell ⟨cb, 1, none⟩ (.int .i64 sz)) ⟨g, lo, ll, lc, co, cl, cc, no, nl, nc, oo, ol, oc⟩ m) := HR.out.keep gs (fun j hj => by cases hj; intro q; have := HLT.out _ q; have := HN.out; omega)
    have cS := l4SetChan_any ⟨g, lo, ll, lc, co, cl, cc, no, nl, nc, oo, ol, oc⟩ m ⟨xo, sz, xs, xg, xl⟩ (V.setCell ⟨cb, 1, none⟩ (.int .i64 sz)) ⟨by show I64 xo; rw [HXO.out]; exact hoI, ⟨by show _ ≤ sz; omega, by show sz ≤ _; omega⟩, ⟨by show _ ≤ xs; omega, by show xs ≤ _; omega⟩, ⟨by show _ ≤ xg; omega, by show xg ≤ _; omega⟩⟩ (by omega) HS.out
    simp only at cS
    have HF : Hid (Fr w (V.setCell ⟨cb, 1, none⟩ (.int .i64 sz))) := fV.then gs (one_blk (by have := HN.out; have := HB.out; omega))
    have HZ : Hid (b0 + 3 ≤ (V.setCell ⟨cb, 1, none⟩ (.int .i64 sz)).heap.size) := by
      show b0 + 3 ≤ (V.setCell ⟨cb, 1, none⟩ (.int .i64 sz)).heap.size
      have := gs.size; have := HN.out; omega
    obtain ⟨s0, s1, s2, s3, s4⟩ := q1.at
    simp only at s0 s1 s2 s3 s4
    obtain ⟨l0, l1, l2, l3, l4⟩ := q4.at
    simp only at l0 l1 l2 l3 l4
    obtain ⟨e0, e1, e2, e3, e4, e5, e6, e7⟩ := k2.at
    simp only at e0 e1 e2 e3 e4 e5 e6 e7
    clear q1 q4 gs
    go_wp2_with fail
    refine cS.mono ?_
    rintro x u4 ⟨⟨g', lo1, ll1, lc1, co1, cl1, cc1, no1, nl1, nc1, oo1, ol1, oc1⟩, rfl, hS, f4⟩
    clear cS s0 s1 s2 s3 s4 l0 l1 l2 l3 l4 e0 e1 e2 e3 e4 e5 e6 e7 hfz c0 c1 c2 c3 c4
    have q3 := q3.fr f4
    obtain ⟨j0, j1, j2, j3, j4⟩ := q3.at
    simp only at j0 j1 j2 j3 j4
    have jf := fun i => q3.free i
    go_wp2_with fail
    refine bodyPost_ret (v := .agg #[.int .i64 g', .slice lo1 ll1 lc1, .slice co1 cl1 cc1, .slice no1 nl1 nc1, .slice oo1 ol1 oc1]) (by simp [results, Tryz.results129, go_sem, j0, j1, j2, j3, j4]) rfl ⟨⟨g', lo1, ll1, lc1, co1, cl1, cc1, no1, nl1, nc1, oo1, ol1, oc1⟩, rfl, ?_, ?_⟩
    · rw [HE.out]
      exact (do_fin hS (fun q => by rcases q with q | ⟨q, _⟩; · { have := HLT.out _ q; omega }; · { have := HZ.out; omega }) (fun b q => Grew.wide HF.out.size (Nat.le_refl _) b q) (by have := HB.out; omega) (HF.out.trans f4) _ _ _ _ _).1
    · exact (do_fin hS (fun q => by rcases q with q | ⟨q, _⟩; · { have := HLT.out _ q; omega }; · { have := HZ.out; omega }) (fun b q => Grew.wide HF.out.size (Nat.le_refl _) b q) (by have := HB.out; omega) (HF.out.trans f4) _ _ _ _ _).2
  · have hgr := hkk.2
    clear hkk
    have HE : Hid (D = setCh m ⟨xo, xc, xs + 1, xg, xl⟩) := by
      show D = _
      rw [HD.out]
      simp [doS, chanTo, HXX.out]
    clear HD
    have gs := grown_set V cb 2 (.int .i64 (xs + 1))
    have q1 := k1.keep gs (by simp only [ne_eq, Option.some.injEq]; have := HN.out; omega)
    have q3 := k3.keep gs (by simp only [ne_eq, Option.some.injEq]; have := HN.out; omega)
    have q4 := kc.set2 ((xs + 1))
    have hfz := kc.free 2
    obtain ⟨c0, c1, c2, c3, c4⟩ := kc.at
    simp only at c0 c1 c2 c3 c4
    have hwr : IntKind.i64.wrap (xs + 1) = xs + 1 := by rw [IntKind.wrap_i64]; omega
    have HS : Hid (ScR B (V.setCell ⟨cb, 2, none⟩ (.int .i64 (xs + 1))) ⟨g, lo, ll, lc, co, cl, cc, no, nl, nc, oo, ol, oc⟩ m) := HR.out.keep gs (fun j hj => by cases hj; intro q; have := HLT.out _ q; have := HN.out; omega)
    have cS := l4SetChan_any ⟨g, lo, ll, lc, co, cl, cc, no, nl, nc, oo, ol, oc⟩ m ⟨xo, xc, xs + 1, xg, xl⟩ (V.setCell ⟨cb, 2, none⟩ (.int .i64 (xs + 1))) ⟨by show I64 xo; rw [HXO.out]; exact hoI, ⟨by show _ ≤ xc; omega, by show xc ≤ _; omega⟩, ⟨by show _ ≤ xs + 1; omega, by show xs + 1 ≤ _; omega⟩, ⟨by show _ ≤ xg; omega, by show xg ≤ _; omega⟩⟩ (by omega) HS.out
    simp only at cS
    have HF : Hid (Fr w (V.setCell ⟨cb, 2, none⟩ (.int .i64 (xs + 1)))) := fV.then gs (one_blk (by have := HN.out; have := HB.out; omega))
    have HZ : Hid (b0 + 3 ≤ (V.setCell ⟨cb, 2, none⟩ (.int .i64 (xs + 1))).heap.size) := by
      show b0 + 3 ≤ (V.setCell ⟨cb, 2, none⟩ (.int .i64 (xs + 1))).heap.size
      have := gs.size; have := HN.out; omega
    obtain ⟨s0, s1, s2, s3, s4⟩ := q1.at
    simp only at s0 s1 s2 s3 s4
    obtain ⟨l0, l1, l2, l3, l4⟩ := q4.at
    simp only at l0 l1 l2 l3 l4
    obtain ⟨e0, e1, e2, e3, e4, e5, e6, e7⟩ := k2.at
    simp only at e0 e1 e2 e3 e4 e5 e6 e7
    clear q1 q4 gs
    go_wp2_with fail
    refine cS.mono ?_
    rintro x u4 ⟨⟨g', lo1, ll1, lc1, co1, cl1, cc1, no1, nl1, nc1, oo1, ol1, oc1⟩, rfl, hS, f4⟩
    clear cS s0 s1 s2 s3 s4 l0 l1 l2 l3 l4 e0 e1 e2 e3 e4 e5 e6 e7 hfz c0 c1 c2 c3 c4
    have q3 := q3.fr f4
    obtain ⟨j0, j1, j2, j3, j4⟩ := q3.at
    simp only at j0 j1 j2 j3 j4
    have jf := fun i => q3.free i
    go_wp2_with fail
    refine bodyPost_ret (v := .agg #[.int .i64 g', .slice lo1 ll1 lc1, .slice co1 cl1 cc1, .slice no1 nl1 nc1, .slice oo1 ol1 oc1]) (by simp [results, Tryz.results129, go_sem, j0, j1, j2, j3, j4]) rfl ⟨⟨g', lo1, ll1, lc1, co1, cl1, cc1, no1, nl1, nc1, oo1, ol1, oc1⟩, rfl, ?_, ?_⟩
    · rw [HE.out]
      exact (do_fin hS (fun q => by rcases q with q | ⟨q, _⟩; · { have := HLT.out _ q; omega }; · { have := HZ.out; omega }) (fun b q => Grew.wide HF.out.size (Nat.le_refl _) b q) (by have := HB.out; omega) (HF.out.trans f4) _ _ _ _ _).1
    · exact (do_fin hS (fun q => by rcases q with q | ⟨q, _⟩; · { have := HLT.out _ q; omega }; · { have := HZ.out; omega }) (fun b q => Grew.wide HF.out.size (Nat.le_refl _) b q) (by have := HB.out; omega) (HF.out.trans f4) _ _ _ _ _).2
  · have hgr := hkk.2
    clear hkk
    have HE : Hid (D = setCh m ⟨xo, xc, xs, xg + 1, xl⟩) := by
      show D = _
      rw [HD.out]
      simp [doS, chanTo, HXX.out]
    clear HD
    have gs := grown_set V cb 3 (.int .i64 (xg + 1))
    have q1 := k1.keep gs (by simp only [ne_eq, Option.some.injEq]; have := HN.out; omega)
    have q3 := k3.keep gs (by simp only [ne_eq, Option.some.injEq]; have := HN.out; omega)
    have q4 := kc.set3 ((xg + 1))
    have hfz := kc.free 3
    obtain ⟨c0, c1, c2, c3, c4⟩ := kc.at
    simp only at c0 c1 c2 c3 c4
    have hwr : IntKind.i64.wrap (xg + 1) = xg + 1 := by rw [IntKind.wrap_i64]; omega
    have HS : Hid (ScR B (V.setCell ⟨cb, 3, none⟩ (.int .i64 (xg + 1))) ⟨g, lo, ll, lc, co, cl, cc, no, nl, nc, oo, ol, oc⟩ m) := HR.out.keep gs (fun j hj => by cases hj; intro q; have := HLT.out _ q; have := HN.out; omega)
    have cS := l4SetChan_any ⟨g, lo, ll, lc, co, cl, cc, no, nl, nc, oo, ol, oc⟩ m ⟨xo, xc, xs, xg + 1, xl⟩ (V.setCell ⟨cb, 3, none⟩ (.int .i64 (xg + 1))) ⟨by show I64 xo; rw [HXO.out]; exact hoI, ⟨by show _ ≤ xc; omega, by show xc ≤ _; omega⟩, ⟨by show _ ≤ xs; omega, by show xs ≤ _; omega⟩, ⟨by show _ ≤ xg + 1; omega, by show xg + 1 ≤ _; omega⟩⟩ (by omega) HS.out
    simp only at cS
    have HF : Hid (Fr w (V.setCell ⟨cb, 3, none⟩ (.int .i64 (xg + 1)))) := fV.then gs (one_blk (by have := HN.out; have := HB.out; omega))
    have HZ : Hid (b0 + 3 ≤ (V.setCell ⟨cb, 3, none⟩ (.int .i64 (xg + 1))).heap.size) := by
      show b0 + 3 ≤ (V.setCell ⟨cb, 3, none⟩ (.int .i64 (xg + 1))).heap.size
      have := gs.size; have := HN.out; omega
    obtain ⟨s0, s1, s2, s3, s4⟩ := q1.at
    simp only at s0 s1 s2 s3 s4
    obtain ⟨l0, l1, l2, l3, l4⟩ := q4.at
    simp only at l0 l1 l2 l3 l4
    obtain ⟨e0, e1, e2, e3, e4, e5, e6, e7⟩ := k2.at
    simp only at e0 e1 e2 e3 e4 e5 e6 e7
    clear q1 q4 gs
    go_wp2_with fail
    refine cS.mono ?_
    rintro x u4 ⟨⟨g', lo1, ll1, lc1, co1, cl1, cc1, no1, nl1, nc1, oo1, ol1, oc1⟩, rfl, hS, f4⟩
    clear cS s0 s1 s2 s3 s4 l0 l1 l2 l3 l4 e0 e1 e2 e3 e4 e5 e6 e7 hfz c0 c1 c2 c3 c4
    have q3 := q3.fr f4
    obtain ⟨j0, j1, j2, j3, j4⟩ := q3.at
    simp only at j0 j1 j2 j3 j4
    have jf := fun i => q3.free i
    go_wp2_with fail
    refine bodyPost_ret (v := .agg #[.int .i64 g', .slice lo1 ll1 lc1, .slice co1 cl1 cc1, .slice no1 nl1 nc1, .slice oo1 ol1 oc1]) (by simp [results, Tryz.results129, go_sem, j0, j1, j2, j3, j4]) rfl ⟨⟨g', lo1, ll1, lc1, co1, cl1, cc1, no1, nl1, nc1, oo1, ol1, oc1⟩, rfl, ?_, ?_⟩
    · rw [HE.out]
      exact (do_fin hS (fun q => by rcases q with q | ⟨q, _⟩; · { have := HLT.out _ q; omega }; · { have := HZ.out; omega }) (fun b q => Grew.wide HF.out.size (Nat.le_refl _) b q) (by have := HB.out; omega) (HF.out.trans f4) _ _ _ _ _).1
    · exact (do_fin hS (fun q => by rcases q with q | ⟨q, _⟩; · { have := HLT.out _ q; omega }; · { have := HZ.out; omega }) (fun b q => Grew.wide HF.out.size (Nat.le_refl _) b q) (by have := HB.out; omega) (HF.out.trans f4) _ _ _ _ _).2
  · have hgr := hkk.2
    clear hkk
    have HE : Hid (D = m) := by
      show D = m
      rw [HD.out]
      simp [doS]
    clear HD
    obtain ⟨s0, s1, s2, s3, s4⟩ := k1.at
    simp only at s0 s1 s2 s3 s4
    obtain ⟨e0, e1, e2, e3, e4, e5, e6, e7⟩ := k2.at
    simp only at e0 e1 e2 e3 e4 e5 e6 e7
    obtain ⟨j0, j1, j2, j3, j4⟩ := k3.at
    simp only at j0 j1 j2 j3 j4
    have jf := fun i => k3.free i
    go_wp2_with fail
    refine bodyPost_ret (v := .agg #[.int .i64 g, .slice lo ll lc, .slice co cl cc, .slice no nl nc, .slice oo ol oc]) (by simp [results, Tryz.results129, go_sem, j0, j1, j2, j3, j4]) rfl ⟨⟨g, lo, ll, lc, co, cl, cc, no, nl, nc, oo, ol, oc⟩, rfl, ?_, ?_⟩
    · rw [HE.out]
      exact (do_fin HR.out (fun q => by have := HLT.out _ q; omega) (fun _ q => .inl q) (by have := HB.out; omega) fV _ _ _ _ _).1
    · exact (do_fin HR.out (fun q => by have := HLT.out _ q; omega) (fun _ q => .inl q) (by have := HB.out; omega) fV _ _ _ _ _).2
  · have hgr := hkk.2
    clear hkk
    have HE : Hid (D = setCh m ⟨xo, xc, xs, xg, true⟩) := by
      show D = _
      rw [HD.out]
      simp [doS, chanTo, HXX.out]
    clear HD
    have gs := grown_set V cb 4 (.bool true)
    have q1 := k1.keep gs (by simp only [ne_eq, Option.some.injEq]; have := HN.out; omega)
    have q3 := k3.keep gs (by simp only [ne_eq, Option.some.injEq]; have := HN.out; omega)
    have q4 := kc.set4 (true)
    have hfz := kc.free 4
    obtain ⟨c0, c1, c2, c3, c4⟩ := kc.at
    simp only at c0 c1 c2 c3 c4
    have HS : Hid (ScR B (V.setCell ⟨cb, 4, none⟩ (.bool true)) ⟨g, lo, ll, lc, co, cl, cc, no, nl, nc, oo, ol, oc⟩ m) := HR.out.keep gs (fun j hj => by cases hj; intro q; have := HLT.out _ q; have := HN.out; omega)
    have cS := l4SetChan_any ⟨g, lo, ll, lc, co, cl, cc, no, nl, nc, oo, ol, oc⟩ m ⟨xo, xc, xs, xg, true⟩ (V.setCell ⟨cb, 4, none⟩ (.bool true)) ⟨by show I64 xo; rw [HXO.out]; exact hoI, ⟨by show _ ≤ xc; omega, by show xc ≤ _; omega⟩, ⟨by show _ ≤ xs; omega, by show xs ≤ _; omega⟩, ⟨by show _ ≤ xg; omega, by show xg ≤ _; omega⟩⟩ (by omega) HS.out
    simp only at cS
    have HF : Hid (Fr w (V.setCell ⟨cb, 4, none⟩ (.bool true))) := fV.then gs (one_blk (by have := HN.out; have := HB.out; omega))
    have HZ : Hid (b0 + 3 ≤ (V.setCell ⟨cb, 4, none⟩ (.bool true)).heap.size) := by
      show b0 + 3 ≤ (V.setCell ⟨cb, 4, none⟩ (.bool true)).heap.size
      have := gs.size; have := HN.out; omega
    obtain ⟨s0, s1, s2, s3, s4⟩ := q1.at
    simp only at s0 s1 s2 s3 s4
    obtain ⟨l0, l1, l2, l3, l4⟩ := q4.at
    simp only at l0 l1 l2 l3 l4
    obtain ⟨e0, e1, e2, e3, e4, e5, e6, e7⟩ := k2.at
    simp only at e0 e1 e2 e3 e4 e5 e6 e7
    clear q1 q4 gs
    go_wp2_with fail
    refine cS.mono ?_
    rintro x u4 ⟨⟨g', lo1, ll1, lc1, co1, cl1, cc1, no1, nl1, nc1, oo1, ol1, oc1⟩, rfl, hS, f4⟩
    clear cS s0 s1 s2 s3 s4 l0 l1 l2 l3 l4 e0 e1 e2 e3 e4 e5 e6 e7 hfz c0 c1 c2 c3 c4
    have q3 := q3.fr f4
    obtain ⟨j0, j1, j2, j3, j4⟩ := q3.at
    simp only at j0 j1 j2 j3 j4
    have jf := fun i => q3.free i
    go_wp2_with fail
    refine bodyPost_ret (v := .agg #[.int .i64 g', .slice lo1 ll1 lc1, .slice co1 cl1 cc1, .slice no1 nl1 nc1, .slice oo1 ol1 oc1]) (by simp [results, Tryz.results129, go_sem, j0, j1, j2, j3, j4]) rfl ⟨⟨g', lo1, ll1, lc1, co1, cl1, cc1, no1, nl1, nc1, oo1, ol1, oc1⟩, rfl, ?_, ?_⟩
    · rw [HE.out]
      exact (do_fin hS (fun q => by rcases q with q | ⟨q, _⟩; · { have := HLT.out _ q; omega }; · { have := HZ.out; omega }) (fun b q => Grew.wide HF.out.size (Nat.le_refl _) b q) (by have := HB.out; omega) (HF.out.trans f4) _ _ _ _ _).1
    · exact (do_fin hS (fun q => by rcases q with q | ⟨q, _⟩; · { have := HLT.out _ q; omega }; · { have := HZ.out; omega }) (fun b q => Grew.wide HF.out.size (Nat.le_refl _) b q) (by have := HB.out; omega) (HF.out.trans f4) _ _ _ _ _).2
  · have hgr := hkk.2
    clear hkk
    have HE : Hid (D = m) := by
      show D = m
      rw [HD.out]
      simp [doS]
    clear HD
    obtain ⟨s0, s1, s2, s3, s4⟩ := k1.at
    simp only at s0 s1 s2 s3 s4
    obtain ⟨e0, e1, e2, e3, e4, e5, e6, e7⟩ := k2.at
    simp only at e0 e1 e2 e3 e4 e5 e6 e7
    obtain ⟨j0, j1, j2, j3, j4⟩ := k3.at
    simp only at j0 j1 j2 j3 j4
    have jf := fun i => k3.free i
    go_wp2_with fail
    refine bodyPost_ret (v := .agg #[.int .i64 g, .slice lo ll lc, .slice co cl cc, .slice no nl nc, .slice oo ol oc]) (by simp [results, Tryz.results129, go_sem, j0, j1, j2, j3, j4]) rfl ⟨⟨g, lo, ll, lc, co, cl, cc, no, nl, nc, oo, ol, oc⟩, rfl, ?_, ?_⟩
    · rw [HE.out]
      exact (do_fin HR.out (fun q => by have := HLT.out _ q; omega) (fun _ q => .inl q) (by have := HB.out; omega) fV _ _ _ _ _).1
    · exact (do_fin HR.out (fun q => by have := HLT.out _ q; omega) (fun _ q => .inl q) (by have := HB.out; omega) fV _ _ _ _ _).2
  · have hgr := hkk.2
    clear hkk
    have HE : Hid (D = setCt m o (C + sz)) := by
      show D = _
      rw [HD.out]
      simp [doS, HCC.out]
    clear HD
    have hwr : IntKind.i64.wrap (C + sz) = C + sz := by rw [IntKind.wrap_i64]; omega
    have HQ : Hid (∀ u, Fr V u → ScB u b0 ⟨g, lo, ll, lc, co, cl, cc, no, nl, nc, oo, ol, oc⟩ ∧ EvAt u (b0 + 1) ⟨12, gr, o, wi, l, sz, f, t⟩ ∧ ScK u (b0 + 1 + 1) ⟨0, none, 0, 0, none, 0, 0, none, 0, 0, none, 0, 0⟩) := fun u f => ⟨(k1.fr f).at, k2.at.fr f, k3.fr f⟩
    have cN := fun u (f : Fr V u) => l4CountOf_any ⟨g, lo, ll, lc, co, cl, cc, no, nl, nc, oo, ol, oc⟩ m o u (HR.out.fr f)
    have cS := fun u (f : Fr V u) => l4SetCount_any ⟨g, lo, ll, lc, co, cl, cc, no, nl, nc, oo, ol, oc⟩ m o (C + sz) u hoI ⟨by omega, by omega⟩ (by omega) (HR.out.fr f)
    simp only [HCC.out] at cN cS
    obtain ⟨s0, s1, s2, s3, s4⟩ := k1.at
    simp only at s0 s1 s2 s3 s4
    obtain ⟨e0, e1, e2, e3, e4, e5, e6, e7⟩ := k2.at
    simp only at e0 e1 e2 e3 e4 e5 e6 e7
    go_wp2_with fail
    have hn1 : ¬ (b0 = b0 + 1 + 1) := by omega
    have hn2 : ¬ (b0 + 1 + 1 = b0) := by omega
    go_region_held3 (fun u => u.cell? ⟨b0, 0, none⟩ = some (.int .i64 g) ∧ u.cell? ⟨b0, 1, none⟩ = some (.slice lo ll lc) ∧ u.cell? ⟨b0, 2, none⟩ = some (.slice co cl cc) ∧ u.cell? ⟨b0, 3, none⟩ = some (.slice no nl nc) ∧ u.cell? ⟨b0, 4, none⟩ = some (.slice oo ol oc) ∧ u.cell? ⟨b0 + 1, 2, none⟩ = some (.int .i64 o) ∧ u.cell? ⟨b0 + 1, 5, none⟩ = some (.int .i64 sz)) (go_keep)
      (first | (go_at_call 55; refine (cN _ (Fr.drew V)).mono ?_; rintro x u3 ⟨rfl, f3⟩; have g3 := (Fr.drew V).trans f3; obtain ⟨⟨a0, a1, a2, a3, a4⟩, ⟨y0, y1, y2, y3, y4, y5, y6, y7⟩, y8⟩ := HQ.out _ g3; simp only at a0 a1 a2 a3 a4 y0 y1 y2 y3 y4 y5 y6 y7) | (go_at_call 169; refine (cS _ g3).mono ?_; rintro x u4 ⟨⟨g', lo1, ll1, lc1, co1, cl1, cc1, no1, nl1, nc1, oo1, ol1, oc1⟩, rfl, hS, f4⟩; have g4 := g3.trans f4; obtain ⟨⟨d0, d1, d2, d3, d4⟩, ⟨z0, z1, z2, z3, z4, z5, z6, z7⟩, z8⟩ := HQ.out _ g4; simp only at d0 d1 d2 d3 d4 z0 z1 z2 z3 z4 z5 z6 z7; obtain ⟨j0, j1, j2, j3, j4⟩ := z8.at; simp only at j0 j1 j2 j3 j4; have jf := fun i => z8.free i))
    go_wp2_with fail
    refine bodyPost_ret (v := .agg #[.int .i64 g', .slice lo1 ll1 lc1, .slice co1 cl1 cc1, .slice no1 nl1 nc1, .slice oo1 ol1 oc1]) (by simp [results, Tryz.results129, go_sem, j0, j1, j2, j3, j4]) rfl ⟨⟨g', lo1, ll1, lc1, co1, cl1, cc1, no1, nl1, nc1, oo1, ol1, oc1⟩, rfl, ?_, ?_⟩
    · rw [HE.out]
      exact (do_fin hS (fun q => by rcases q with q | ⟨q, _⟩; · { have := HLT.out _ q; omega }; · { have := g3.size; have := HN.out; omega }) (fun b q => Grew.wide (fV.trans g3).size (Nat.le_refl _) b q) (by have := HB.out; omega) (fV.trans g4) _ _ _ _ _).1
    · exact (do_fin hS (fun q => by rcases q with q | ⟨q, _⟩; · { have := HLT.out _ q; omega }; · { have := g3.size; have := HN.out; omega }) (fun b q => Grew.wide (fV.trans g3).size (Nat.le_refl _) b q) (by have := HB.out; omega) (fV.trans g4) _ _ _ _ _).2
  · have hgr := hkk.2
    clear hkk
    have HE : Hid (D = setCt m o (C - 1)) := by
      show D = _
      rw [HD.out]
      simp [doS, HCC.out]
    clear HD
    have hwr : IntKind.i64.wrap (C - 1) = C - 1 := by rw [IntKind.wrap_i64]; omega
    have HQ : Hid (∀ u, Fr V u → ScB u b0 ⟨g, lo, ll, lc, co, cl, cc, no, nl, nc, oo, ol, oc⟩ ∧ EvAt u (b0 + 1) ⟨13, gr, o, wi, l, sz, f, t⟩ ∧ ScK u (b0 + 1 + 1) ⟨0, none, 0, 0, none, 0, 0, none, 0, 0, none, 0, 0⟩) := fun u f => ⟨(k1.fr f).at, k2.at.fr f, k3.fr f⟩
    have cN := fun u (f : Fr V u) => l4CountOf_any ⟨g, lo, ll, lc, co, cl, cc, no, nl, nc, oo, ol, oc⟩ m o u (HR.out.fr f)
    have cS := fun u (f : Fr V u) => l4SetCount_any ⟨g, lo, ll, lc, co, cl, cc, no, nl, nc, oo, ol, oc⟩ m o (C - 1) u hoI ⟨by omega, by omega⟩ (by omega) (HR.out.fr f)
    simp only [HCC.out] at cN cS
    obtain ⟨s0, s1, s2, s3, s4⟩ := k1.at
    simp only at s0 s1 s2 s3 s4
    obtain ⟨e0, e1, e2, e3, e4, e5, e6, e7⟩ := k2.at
    simp only at e0 e1 e2 e3 e4 e5 e6 e7
    go_wp2_with fail
    have hn1 : ¬ (b0 = b0 + 1 + 1) := by omega
    have hn2 : ¬ (b0 + 1 + 1 = b0) := by omega
    go_region_held3 (fun u => u.cell? ⟨b0, 0, none⟩ = some (.int .i64 g) ∧ u.cell? ⟨b0, 1, none⟩ = some (.slice lo ll lc) ∧ u.cell? ⟨b0, 2, none⟩ = some (.slice co cl cc) ∧ u.cell? ⟨b0, 3, none⟩ = some (.slice no nl nc) ∧ u.cell? ⟨b0, 4, none⟩ = some (.slice oo ol oc) ∧ u.cell? ⟨b0 + 1, 2, none⟩ = some (.int .i64 o) ∧ u.cell? ⟨b0 + 1, 5, none⟩ = some (.int .i64 sz)) (go_keep)
      (first | (go_at_call 55; refine (cN _ (Fr.drew V)).mono ?_; rintro x u3 ⟨rfl, f3⟩; have g3 := (Fr.drew V).trans f3; obtain ⟨⟨a0, a1, a2, a3, a4⟩, ⟨y0, y1, y2, y3, y4, y5, y6, y7⟩, y8⟩ := HQ.out _ g3; simp only at a0 a1 a2 a3 a4 y0 y1 y2 y3 y4 y5 y6 y7) | (go_at_call 169; refine (cS _ g3).mono ?_; rintro x u4 ⟨⟨g', lo1, ll1, lc1, co1, cl1, cc1, no1, nl1, nc1, oo1, ol1, oc1⟩, rfl, hS, f4⟩; have g4 := g3.trans f4; obtain ⟨⟨d0, d1, d2, d3, d4⟩, ⟨z0, z1, z2, z3, z4, z5, z6, z7⟩, z8⟩ := HQ.out _ g4; simp only at d0 d1 d2 d3 d4 z0 z1 z2 z3 z4 z5 z6 z7; obtain ⟨j0, j1, j2, j3, j4⟩ := z8.at; simp only at j0 j1 j2 j3 j4; have jf := fun i => z8.free i))
    go_wp2_with fail
    refine bodyPost_ret (v := .agg #[.int .i64 g', .slice lo1 ll1 lc1, .slice co1 cl1 cc1, .slice no1 nl1 nc1, .slice oo1 ol1 oc1]) (by simp [results, Tryz.results129, go_sem, j0, j1, j2, j3, j4]) rfl ⟨⟨g', lo1, ll1, lc1, co1, cl1, cc1, no1, nl1, nc1, oo1, ol1, oc1⟩, rfl, ?_, ?_⟩
    · rw [HE.out]
      exact (do_fin hS (fun q => by rcases q with q | ⟨q, _⟩; · { have := HLT.out _ q; omega }; · { have := g3.size; have := HN.out; omega }) (fun b q => Grew.wide (fV.trans g3).size (Nat.le_refl _) b q) (by have := HB.out; omega) (fV.trans g4) _ _ _ _ _).1
    · exact (do_fin hS (fun q => by rcases q with q | ⟨q, _⟩; · { have := HLT.out _ q; omega }; · { have := g3.size; have := HN.out; omega }) (fun b q => Grew.wide (fV.trans g3).size (Nat.le_refl _) b q) (by have := HB.out; omega) (fV.trans g4) _ _ _ _ _).2
  · have hgr := hkk.2
    clear hkk
    have HE : Hid (D = m) := by
      show D = m
      rw [HD.out]
      simp [doS]
    clear HD
    obtain ⟨s0, s1, s2, s3, s4⟩ := k1.at
    simp only at s0 s1 s2 s3 s4
    obtain ⟨e0, e1, e2, e3, e4, e5, e6, e7⟩ := k2.at
    simp only at e0 e1 e2 e3 e4 e5 e6 e7
    obtain ⟨j0, j1, j2, j3, j4⟩ := k3.at
    simp only at j0 j1 j2 j3 j4
    have jf := fun i => k3.free i
    go_wp2_with fail
    refine bodyPost_ret (v := .agg #[.int .i64 g, .slice lo ll lc, .slice co cl cc, .slice no nl nc, .slice oo ol oc]) (by simp [results, Tryz.results129, go_sem, j0, j1, j2, j3, j4]) rfl ⟨⟨g, lo, ll, lc, co, cl, cc, no, nl, nc, oo, ol, oc⟩, rfl, ?_, ?_⟩
    · rw [HE.out]
      exact (do_fin HR.out (fun q => by have := HLT.out _ q; omega) (fun _ q => .inl q) (by have := HB.out; omega) fV _ _ _ _ _).1
    · exact (do_fin HR.out (fun q => by have := HLT.out _ q; omega) (fun _ q => .inl q) (by have := HB.out; omega) fV _ _ _ _ _).2
  · have hgr := hkk.2
    clear hkk
    have HE : Hid (D = { m with os := withL m.os o }) := by
      show D = _
      rw [HD.out]
      simp [doS]
    clear HD
    have hln := HR.out.ol
    have cW := l4With_any oo ol oc m.os o V hln.symm hoI HR.out.ons (by omega)
    clear hln
    obtain ⟨s0, s1, s2, s3, s4⟩ := k1.at
    simp only at s0 s1 s2 s3 s4
    obtain ⟨e0, e1, e2, e3, e4, e5, e6, e7⟩ := k2.at
    simp only at e0 e1 e2 e3 e4 e5 e6 e7
    go_wp2_with fail
    refine cW.mono ?_
    rintro x u3 ⟨v3, rfl, ⟨gg, cg, rfl, o3⟩, f3⟩
    obtain ⟨nn, hnn⟩ : ∃ nn, nn = (withL m.os o).length := ⟨_, rfl⟩
    have HNN : Hid (nn = (withL m.os o).length) := hnn
    rw [← hnn] at o3 ⊢
    clear hnn cW s0 s1 s2 s3 s4 e0 e1 e2 e3 e4 e5 e6 e7
    have hgg := own_lt o3
    have k1 := k1.fr f3
    have k3 := k3.fr f3
    have gs := grown_set u3 b0 4 (.slice (some ⟨gg, 0, none⟩) nn cg)
    have q1 := k1.setO (some ⟨gg, 0, none⟩) nn cg
    have q3 := k3.keep gs (by simp only [ne_eq, Option.some.injEq]; have := HN.out; omega)
    have hfz := k1.free 4
    have hlo := k1.at.c4
    simp only at hlo
    have hs3 := f3.size
    have HS : Hid (ScR (Grew B V u3) (u3.setCell ⟨b0, 4, none⟩ (.slice (some ⟨gg, 0, none⟩) nn cg)) ⟨g, lo, ll, lc, co, cl, cc, no, nl, nc, some ⟨gg, 0, none⟩, nn, cg⟩ { m with os := withL m.os o }) := by
      have h := ((HR.out.fr f3).keep gs (fun j hj => by cases hj; intro q; have := HLT.out _ q; omega)).mono (Grew.old (w := V) (w' := u3))
      exact { h with ons := o3.reads.keep gs (.inr (by simp [blk]; have := HN.out; omega)), ol := HNN.out, bo := (by intro b hb; simp only [blk, Option.map_some, Option.some.injEq] at hb; subst hb; exact .inr hgg), zo := (fun q => by simp at q), so := (by have := withL_len m.os o; show (withL m.os o).length ≤ _; omega) }
    have HF : Hid (Fr w (u3.setCell ⟨b0, 4, none⟩ (.slice (some ⟨gg, 0, none⟩) nn cg))) := (fV.trans f3).then gs (one_blk (Nat.le_of_eq HB.out.symm))
    have hs4 := gs.size
    have HZ : Hid (b0 + 3 ≤ V.heap.size ∧ V.heap.size ≤ (u3.setCell ⟨b0, 4, none⟩ (.slice (some ⟨gg, 0, none⟩) nn cg)).heap.size ∧ u3.heap.size ≤ (u3.setCell ⟨b0, 4, none⟩ (.slice (some ⟨gg, 0, none⟩) nn cg)).heap.size ∧ w.heap.size ≤ V.heap.size) := by
      have := HN.out; have := fV.size
      exact ⟨by omega, by omega, by omega, by omega⟩
    obtain ⟨s0, s1, s2, s3, s4⟩ := q1.at
    simp only at s0 s1 s2 s3 s4
    obtain ⟨j0, j1, j2, j3, j4⟩ := q3.at
    simp only at j0 j1 j2 j3 j4
    have jf := fun i => q3.free i
    clear q1 q3 gs hs3 hs4 hgg o3
    go_wp2_with fail
    refine bodyPost_ret (v := .agg #[.int .i64 g, .slice lo ll lc, .slice co cl cc, .slice no nl nc, .slice (some ⟨gg, 0, none⟩) nn cg]) (by simp [results, Tryz.results129, go_sem, j0, j1, j2, j3, j4]) rfl ⟨⟨g, lo, ll, lc, co, cl, cc, no, nl, nc, some ⟨gg, 0, none⟩, nn, cg⟩, rfl, ?_, ?_⟩
    · rw [HE.out]
      exact (do_fin HS.out (fun q => by rcases q with q | ⟨q, _⟩; · { have := HLT.out _ q; omega }; · { have := HZ.out; omega }) (fun b q => by rcases q with q | ⟨q, q2⟩; · { exact .inl q }; · { exact .inr ⟨by have := HZ.out; omega, by have := HZ.out; omega⟩ }) (by have := HB.out; omega) HF.out _ _ _ _ _).1
    · exact (do_fin HS.out (fun q => by rcases q with q | ⟨q, _⟩; · { have := HLT.out _ q; omega }; · { have := HZ.out; omega }) (fun b q => by rcases q with q | ⟨q, q2⟩; · { exact .inl q }; · { exact .inr ⟨by have := HZ.out; omega, by have := HZ.out; omega⟩ }) (by have := HB.out; omega) HF.out _ _ _ _ _).2
  · have hgr := hkk.2
    clear hkk
    have HE : Hid (D = m) := by
      show D = m
      rw [HD.out]
      simp [doS]
    clear HD
    obtain ⟨s0, s1, s2, s3, s4⟩ := k1.at
    simp only at s0 s1 s2 s3 s4
    obtain ⟨e0, e1, e2, e3, e4, e5, e6, e7⟩ := k2.at
    simp only at e0 e1 e2 e3 e4 e5 e6 e7
    obtain ⟨j0, j1, j2, j3, j4⟩ := k3.at
    simp only at j0 j1 j2 j3 j4
    have jf := fun i => k3.free i
    go_wp2_with fail
    refine bodyPost_ret (v := .agg #[.int .i64 g, .slice lo ll lc, .slice co cl cc, .slice no nl nc, .slice oo ol oc]) (by simp [results, Tryz.results129, go_sem, j0, j1, j2, j3, j4]) rfl ⟨⟨g, lo, ll, lc, co, cl, cc, no, nl, nc, oo, ol, oc⟩, rfl, ?_, ?_⟩
    · rw [HE.out]
      exact (do_fin HR.out (fun q => by have := HLT.out _ q; omega) (fun _ q => .inl q) (by have := HB.out; omega) fV _ _ _ _ _).1
    · exact (do_fin HR.out (fun q => by have := HLT.out _ q; omega) (fun _ q => .inl q) (by have := HB.out; omega) fV _ _ _ _ _).2
  · have hgr := hkk.2
    clear hkk
    have HE : Hid (D = m) := by
      show D = m
      rw [HD.out]
      simp [doS]
    clear HD
    obtain ⟨s0, s1, s2, s3, s4⟩ := k1.at
    simp only at s0 s1 s2 s3 s4
    obtain ⟨e0, e1, e2, e3, e4, e5, e6, e7⟩ := k2.at
    simp only at e0 e1 e2 e3 e4 e5 e6 e7
    obtain ⟨j0, j1, j2, j3, j4⟩ := k3.at
    simp only at j0 j1 j2 j3 j4
    have jf := fun i => k3.free i
    go_wp2_with fail
    refine bodyPost_ret (v := .agg #[.int .i64 g, .slice lo ll lc, .slice co cl cc, .slice no nl nc, .slice oo ol oc]) (by simp [results, Tryz.results129, go_sem, j0, j1, j2, j3, j4]) rfl ⟨⟨g, lo, ll, lc, co, cl, cc, no, nl, nc, oo, ol, oc⟩, rfl, ?_, ?_⟩
    · rw [HE.out]
      exact (do_fin HR.out (fun q => by have := HLT.out _ q; omega) (fun _ q => .inl q) (by have := HB.out; omega) fV _ _ _ _ _).1
    · exact (do_fin HR.out (fun q => by have := HLT.out _ q; omega) (fun _ q => .inl q) (by have := HB.out; omega) fV _ _ _ _ _).2
  · have hgr := hkk.2
    clear hkk
    have HE : Hid (D = m) := by
      show D = m
      rw [HD.out]
      simp [doS]
    clear HD
    obtain ⟨s0, s1, s2, s3, s4⟩ := k1.at
    simp only at s0 s1 s2 s3 s4
    obtain ⟨e0, e1, e2, e3, e4, e5, e6, e7⟩ := k2.at
    simp only at e0 e1 e2 e3 e4 e5 e6 e7
    obtain ⟨j0, j1, j2, j3, j4⟩ := k3.at
    simp only at j0 j1 j2 j3 j4
    have jf := fun i => k3.free i
    go_wp2_with fail
    refine bodyPost_ret (v := .agg #[.int .i64 g, .slice lo ll lc, .slice co cl cc, .slice no nl nc, .slice oo ol oc]) (by simp [results, Tryz.results129, go_sem, j0, j1, j2, j3, j4]) rfl ⟨⟨g, lo, ll, lc, co, cl, cc, no, nl, nc, oo, ol, oc⟩, rfl, ?_, ?_⟩
    · rw [HE.out]
      exact (do_fin HR.out (fun q => by have := HLT.out _ q; omega) (fun _ q => .inl q) (by have := HB.out; omega) fV _ _ _ _ _).1
    · exact (do_fin HR.out (fun q => by have := HLT.out _ q; omega) (fun _ q => .inl q) (by have := HB.out; omega) fV _ _ _ _ _).2
  · have hgr := hkk.2
    clear hkk
    have HE : Hid (D = m) := by
      show D = m
      rw [HD.out]
      simp [doS]
    clear HD
    obtain ⟨s0, s1, s2, s3, s4⟩ := k1.at
    simp only at s0 s1 s2 s3 s4
    obtain ⟨e0, e1, e2, e3, e4, e5, e6, e7⟩ := k2.at
    simp only at e0 e1 e2 e3 e4 e5 e6 e7
    obtain ⟨j0, j1, j2, j3, j4⟩ := k3.at
    simp only at j0 j1 j2 j3 j4
    have jf := fun i => k3.free i
    go_wp2_with fail
    refine bodyPost_ret (v := .agg #[.int .i64 g, .slice lo ll lc, .slice co cl cc, .slice no nl nc, .slice oo ol oc]) (by simp [results, Tryz.results129, go_sem, j0, j1, j2, j3, j4]) rfl ⟨⟨g, lo, ll, lc, co, cl, cc, no, nl, nc, oo, ol, oc⟩, rfl, ?_, ?_⟩
    · rw [HE.out]
      exact (do_fin HR.out (fun q => by have := HLT.out _ q; omega) (fun _ q => .inl q) (by have := HB.out; omega) fV _ _ _ _ _).1
    · exact (do_fin HR.out (fun q => by have := HLT.out _ q; omega) (fun _ q => .inl q) (by have := HB.out; omega) fV _ _ _ _ _).2
  · have hgr := hkk.2
    clear hkk
    have HE : Hid (D = m) := by
      show D = m
      rw [HD.out]
      simp [doS]
    clear HD
    obtain ⟨s0, s1, s2, s3, s4⟩ := k1.at
    simp only at s0 s1 s2 s3 s4
    obtain ⟨e0, e1, e2, e3, e4, e5, e6, e7⟩ := k2.at
    simp only at e0 e1 e2 e3 e4 e5 e6 e7
    obtain ⟨j0, j1, j2, j3, j4⟩ := k3.at
    simp only at j0 j1 j2 j3 j4
    have jf := fun i => k3.free i
    go_wp2_with fail
    refine bodyPost_ret (v := .agg #[.int .i64 g, .slice lo ll lc, .slice co cl cc, .slice no nl nc, .slice oo ol oc]) (by simp [results, Tryz.results129, go_sem, j0, j1, j2, j3, j4]) rfl ⟨⟨g, lo, ll, lc, co, cl, cc, no, nl, nc, oo, ol, oc⟩, rfl, ?_, ?_⟩
    · rw [HE.out]
      exact (do_fin HR.out (fun q => by have := HLT.out _ q; omega) (fun _ q => .inl q) (by have := HB.out; omega) fV _ _ _ _ _).1
    · exact (do_fin HR.out (fun q => by have := HLT.out _ q; omega) (fun _ q => .inl q) (by have := HB.out; omega) fV _ _ _ _ _).2
  · have hgr := hkk.2
    clear hkk
    have HE : Hid (D = m) := by
      show D = m
      rw [HD.out]
      simp [doS]
    clear HD
    obtain ⟨s0, s1, s2, s3, s4⟩ := k1.at
    simp only at s0 s1 s2 s3 s4
    obtain ⟨e0, e1, e2, e3, e4, e5, e6, e7⟩ := k2.at
    simp only at e0 e1 e2 e3 e4 e5 e6 e7
    obtain ⟨j0, j1, j2, j3, j4⟩ := k3.at
    simp only at j0 j1 j2 j3 j4
    have jf := fun i => k3.free i
    go_wp2_with fail
    refine bodyPost_ret (v := .agg #[.int .i64 g, .slice lo ll lc, .slice co cl cc, .slice no nl nc, .slice oo ol oc]) (by simp [results, Tryz.results129, go_sem, j0, j1, j2, j3, j4]) rfl ⟨⟨g, lo, ll, lc, co, cl, cc, no, nl, nc, oo, ol, oc⟩, rfl, ?_, ?_⟩
    · rw [HE.out]
      exact (do_fin HR.out (fun q => by have := HLT.out _ q; omega) (fun _ q => .inl q) (by have := HB.out; omega) fV _ _ _ _ _).1
    · exact (do_fin HR.out (fun q => by have := HLT.out _ q; omega) (fun _ q => .inl q) (by have := HB.out; omega) fV _ _ _ _ _).2
  · have hgr := hkk.2
    clear hkk
    have HE : Hid (D = m) := by
      show D = m
      rw [HD.out]
      simp [doS]
    clear HD
    obtain ⟨s0, s1, s2, s3, s4⟩ := k1.at
    simp only at s0 s1 s2 s3 s4
    obtain ⟨e0, e1, e2, e3, e4, e5, e6, e7⟩ := k2.at
    simp only at e0 e1 e2 e3 e4 e5 e6 e7
    obtain ⟨j0, j1, j2, j3, j4⟩ := k3.at
    simp only at j0 j1 j2 j3 j4
    have jf := fun i => k3.free i
    go_wp2_with fail
    refine bodyPost_ret (v := .agg #[.int .i64 g, .slice lo ll lc, .slice co cl cc, .slice no nl nc, .slice oo ol oc]) (by simp [results, Tryz.results129, go_sem, j0, j1, j2, j3, j4]) rfl ⟨⟨g, lo, ll, lc, co, cl, cc, no, nl, nc, oo, ol, oc⟩, rfl, ?_, ?_⟩
    · rw [HE.out]
      exact (do_fin HR.out (fun q => by have := HLT.out _ q; omega) (fun _ q => .inl q) (by have := HB.out; omega) fV _ _ _ _ _).1
    · exact (do_fin HR.out (fun q => by have := HLT.out _ q; omega) (fun _ q => .inl q) (by have := HB.out; omega) fV _ _ _ _ _).2
end Go.Proofs.YtcofhmikdkkigaaGreatDoor
