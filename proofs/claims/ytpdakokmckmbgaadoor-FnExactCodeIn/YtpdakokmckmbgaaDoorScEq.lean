/-
  The walks of the laws' eqScene and its parts, of two scenes that are one.
-/
import Derived.Test.YtpdakokmckmbgaaDoorSc
import Derived.Test.YtpdakokmckmbgaaDoorGrown
import Derived.Test.YtpdakokmckmbgaaDoorIntsEq
import Derived.Test.YtpdakokmckmbgaaDoorScK
namespace Go.Proofs.YtpdakokmckmbgaaDoor
open Go.RowKit

set_option maxHeartbeats 600000 in
theorem eqLock_same {B B' : Nat → Prop} (a b : Lv) (l : Lk) (w : World) (h : LkR B w a l) (h' : LkR B' w b l) :
    Calls Tryd.prog 69 #[.agg #[.int .i64 a.o, .int .i64 a.wr, .slice a.ro a.rn a.rc], .agg #[.int .i64 b.o, .int .i64 b.wr, .slice b.ro b.rn b.rc]] w fun e w' => e = .returned (.bool true) ∧ Fr w w' := by
  have f1 := Fr.alloc w (.cells #[.int .i64 a.o, .int .i64 a.wr, .slice a.ro a.rn a.rc] 72)
  have f2 := Fr.alloc (w.alloc (.cells #[.int .i64 a.o, .int .i64 a.wr, .slice a.ro a.rn a.rc] 72)) (.cells #[.int .i64 b.o, .int .i64 b.wr, .slice b.ro b.rn b.rc] 72)
  have e1 : a.o = b.o := h.o.trans h'.o.symm
  have e2 : a.wr = b.wr := h.wr.trans h'.wr.symm
  have cI := eqI_any a.ro b.ro a.rn b.rn a.rc b.rc l.rd l.rd ((w.alloc (.cells #[.int .i64 a.o, .int .i64 a.wr, .slice a.ro a.rn a.rc] 72)).alloc (.cells #[.int .i64 b.o, .int .i64 b.wr, .slice b.ro b.rn b.rc] 72)) h.rn.symm h'.rn.symm (h.rd.fr (f1.trans f2)) (h'.rd.fr (f1.trans f2))
  rw [decide_eq_true rfl] at cI
  have F := f1.trans f2
  clear h h' f1 f2
  obtain ⟨ao, aw, ar, an, ac⟩ := a
  obtain ⟨bo, bw, br, bn, bc⟩ := b
  simp only at e1 e2 cI F ⊢
  subst e1 e2
  go_enter Tryd.func69, Tryd.ntmps69
  go_wp2_with fail
  refine cI.mono ?_
  rintro e u1 ⟨rfl, nq, rfl⟩
  go_wp2_with fail
  go_ret
  exact ⟨rfl, F.trans (Fr.drewN _ nq)⟩

set_option maxHeartbeats 600000 in
theorem eqChan_same (c : Ch) (w : World) :
    Calls Tryd.prog 70 #[.agg #[.int .i64 c.o, .int .i64 c.cap, .int .i64 c.sent, .int .i64 c.got, .bool c.cl], .agg #[.int .i64 c.o, .int .i64 c.cap, .int .i64 c.sent, .int .i64 c.got, .bool c.cl]] w fun e w' => e = .returned (.bool true) ∧ Fr w w' := by
  have F := (Fr.alloc w (.cells #[.int .i64 c.o, .int .i64 c.cap, .int .i64 c.sent, .int .i64 c.got, .bool c.cl] 75)).trans (Fr.alloc _ (.cells #[.int .i64 c.o, .int .i64 c.cap, .int .i64 c.sent, .int .i64 c.got, .bool c.cl] 75))
  obtain ⟨o, cap, sent, got, cl⟩ := c
  simp only at F ⊢
  cases cl
  · go_enter Tryd.func70, Tryd.ntmps70
    go_wp2_with fail
    go_ret
    exact ⟨rfl, F⟩
  · go_enter Tryd.func70, Tryd.ntmps70
    go_wp2_with fail
    go_ret
    exact ⟨rfl, F⟩

set_option maxHeartbeats 600000 in
theorem eqCount_same (c : Ct) (w : World) :
    Calls Tryd.prog 71 #[.agg #[.int .i64 c.o, .int .i64 c.n], .agg #[.int .i64 c.o, .int .i64 c.n]] w fun e w' => e = .returned (.bool true) ∧ Fr w w' := by
  have F := (Fr.alloc w (.cells #[.int .i64 c.o, .int .i64 c.n] 77)).trans (Fr.alloc _ (.cells #[.int .i64 c.o, .int .i64 c.n] 77))
  obtain ⟨o, n⟩ := c
  simp only at F ⊢
  go_enter Tryd.func71, Tryd.ntmps71
  go_wp2_with fail
  go_ret
  exact ⟨rfl, F⟩

set_option maxHeartbeats 1000000 in
theorem eqCountS_same (ao bo : Option Addr) (n c d : Nat) (es : List Ct) (w : World) (hn : es.length = n) (hl : es.length ≤ 1048576) (h : ReadsG layN w ao es) (h' : ReadsG layN w bo es) :
    Calls Tryd.prog 29 #[.slice ao n c, .slice bo n d] w fun e w' => e = .returned (.bool true) ∧ Fr w w' := by
  subst hn
  go_enter Tryd.func29, Tryd.ntmps29
  go_wp2_with fail
  go_loopw [5] (fun i wr => ∃ k : Nat, k ≤ es.length ∧ i = .int .i64 k ∧ Fr w wr) (fun i _ => es.length - (intOf i).toNat)
  case atStart => exact ⟨0, Nat.zero_le _, rfl, Fr.refl w⟩
  case round =>
    obtain ⟨k, hk, rfl, hf⟩ := hrel
    by_cases hlt : k < es.length
    · obtain ⟨b, off, rfl, a0, a1⟩ := ct_at (h.fr hf) k hlt
      obtain ⟨b', off', rfl, x0, x1⟩ := ct_at (h'.fr hf) k hlt
      obtain ⟨e, he⟩ : ∃ e, e = es[k] := ⟨_, rfl⟩
      simp only [← he] at a0 a1 x0 x1
      clear he
      have cE := fun (s : Later wr) => eqCount_same e s.u
      have := Later.some wr
      have p0 : ∀ s : Later wr, s.u.cell? ⟨b, off + k * 2, none⟩ = some (.int .i64 e.o) := fun s => s.fr.cell a0
      have p1 : ∀ s : Later wr, s.u.cell? ⟨b, off + k * 2 + 1, none⟩ = some (.int .i64 e.n) := fun s => s.fr.cell a1
      have q0 : ∀ s : Later wr, s.u.cell? ⟨b', off' + k * 2, none⟩ = some (.int .i64 e.o) := fun s => s.fr.cell x0
      have q1 : ∀ s : Later wr, s.u.cell? ⟨b', off' + k * 2 + 1, none⟩ = some (.int .i64 e.n) := fun s => s.fr.cell x1
      clear a0 a1 x0 x1
      go_wp2_with fail
      refine wp_region_grown (by kernel_rfl) (by kernel_rfl) ?_
      repeat (go_big_quiet_step (with_reducible exact Calls.grown_of (cE _)))
      refine wpQuiet_nil ?_
      rintro _ ⟨s, rfl⟩
      go_wp2_with fail
      go_roundw
      case rel => exact ⟨k + 1, by omega, by go_num, hf.trans s.fr⟩
      case measure => simp [intOf]; omega
    · go_wp2_with fail
      go_ret
      exact ⟨rfl, hf⟩

set_option maxHeartbeats 1000000 in
theorem eqChanS_same (ao bo : Option Addr) (n c d : Nat) (es : List Ch) (w : World) (hn : es.length = n) (hl : es.length ≤ 1048576) (h : ReadsG layC w ao es) (h' : ReadsG layC w bo es) :
    Calls Tryd.prog 28 #[.slice ao n c, .slice bo n d] w fun e w' => e = .returned (.bool true) ∧ Fr w w' := by
  subst hn
  go_enter Tryd.func28, Tryd.ntmps28
  go_wp2_with fail
  go_loopw [5] (fun i wr => ∃ k : Nat, k ≤ es.length ∧ i = .int .i64 k ∧ Fr w wr) (fun i _ => es.length - (intOf i).toNat)
  case atStart => exact ⟨0, Nat.zero_le _, rfl, Fr.refl w⟩
  case round =>
    obtain ⟨k, hk, rfl, hf⟩ := hrel
    by_cases hlt : k < es.length
    · obtain ⟨b, off, rfl, a0, a1, a2, a3, a4⟩ := ch_at (h.fr hf) k hlt
      obtain ⟨b', off', rfl, x0, x1, x2, x3, x4⟩ := ch_at (h'.fr hf) k hlt
      obtain ⟨e, he⟩ : ∃ e, e = es[k] := ⟨_, rfl⟩
      simp only [← he] at a0 a1 a2 a3 a4 x0 x1 x2 x3 x4
      clear he
      have cE := fun (s : Later wr) => eqChan_same e s.u
      have := Later.some wr
      have p0 : ∀ s : Later wr, s.u.cell? ⟨b, off + k * 5, none⟩ = some (.int .i64 e.o) := fun s => s.fr.cell a0
      have p1 : ∀ s : Later wr, s.u.cell? ⟨b, off + k * 5 + 1, none⟩ = some (.int .i64 e.cap) := fun s => s.fr.cell a1
      have p2 : ∀ s : Later wr, s.u.cell? ⟨b, off + k * 5 + 2, none⟩ = some (.int .i64 e.sent) := fun s => s.fr.cell a2
      have p3 : ∀ s : Later wr, s.u.cell? ⟨b, off + k * 5 + 3, none⟩ = some (.int .i64 e.got) := fun s => s.fr.cell a3
      have p4 : ∀ s : Later wr, s.u.cell? ⟨b, off + k * 5 + 4, none⟩ = some (.bool e.cl) := fun s => s.fr.cell a4
      have q0 : ∀ s : Later wr, s.u.cell? ⟨b', off' + k * 5, none⟩ = some (.int .i64 e.o) := fun s => s.fr.cell x0
      have q1 : ∀ s : Later wr, s.u.cell? ⟨b', off' + k * 5 + 1, none⟩ = some (.int .i64 e.cap) := fun s => s.fr.cell x1
      have q2 : ∀ s : Later wr, s.u.cell? ⟨b', off' + k * 5 + 2, none⟩ = some (.int .i64 e.sent) := fun s => s.fr.cell x2
      have q3 : ∀ s : Later wr, s.u.cell? ⟨b', off' + k * 5 + 3, none⟩ = some (.int .i64 e.got) := fun s => s.fr.cell x3
      have q4 : ∀ s : Later wr, s.u.cell? ⟨b', off' + k * 5 + 4, none⟩ = some (.bool e.cl) := fun s => s.fr.cell x4
      clear a0 a1 a2 a3 a4 x0 x1 x2 x3 x4
      go_wp2_with fail
      refine wp_region_grown (by kernel_rfl) (by kernel_rfl) ?_
      repeat (go_big_quiet_step (with_reducible exact Calls.grown_of (cE _)))
      refine wpQuiet_nil ?_
      rintro _ ⟨s, rfl⟩
      go_wp2_with fail
      go_roundw
      case rel => exact ⟨k + 1, by omega, by go_num, hf.trans s.fr⟩
      case measure => simp [intOf]; omega
    · go_wp2_with fail
      go_ret
      exact ⟨rfl, hf⟩

set_option maxHeartbeats 1000000 in
theorem eqLockS_same {B B' : Nat → Prop} (ao bo : Option Addr) (n c d : Nat) (es fs : List Lv) (ls : List Lk) (w : World) (hn : es.length = n) (hl : es.length ≤ 1048576) (h : ReadsG layL w ao es) (h' : ReadsG layL w bo fs) (hL : LksR B w es ls) (hL' : LksR B' w fs ls) :
    Calls Tryd.prog 27 #[.slice ao n c, .slice bo n d] w fun e w' => e = .returned (.bool true) ∧ Fr w w' := by
  subst hn
  have HL : Hid (es.length = ls.length ∧ fs.length = ls.length) := ⟨hL.len, hL'.len⟩
  go_enter Tryd.func27, Tryd.ntmps27
  go_wp2_with fail
  go_loopw [5] (fun i wr => ∃ k : Nat, k ≤ es.length ∧ i = .int .i64 k ∧ Fr w wr) (fun i _ => es.length - (intOf i).toNat)
  case atStart => exact ⟨0, Nat.zero_le _, rfl, Fr.refl w⟩
  case round =>
    obtain ⟨k, hk, rfl, hf⟩ := hrel
    by_cases hlt : k < es.length
    · have hlt2 : k < fs.length := by have := HL.out; omega
      have hlt3 : k < ls.length := by have := HL.out; omega
      obtain ⟨b, off, rfl, a0, a1, a2⟩ := lv_at (h.fr hf) k hlt
      obtain ⟨b', off', rfl, x0, x1, x2⟩ := lv_at (h'.fr hf) k hlt2
      have cE := fun (s : Later wr) => eqLock_same es[k] fs[k] ls[k] s.u ((hL.at_ k hlt hlt3).fr (hf.trans s.fr)) ((hL'.at_ k hlt2 hlt3).fr (hf.trans s.fr))
      obtain ⟨e, he⟩ : ∃ e, e = es[k] := ⟨_, rfl⟩
      obtain ⟨e2, he2⟩ : ∃ e2, e2 = fs[k] := ⟨_, rfl⟩
      simp only [← he, ← he2] at a0 a1 a2 x0 x1 x2 cE
      clear he he2 hlt2 hlt3
      have := Later.some wr
      have p0 : ∀ s : Later wr, s.u.cell? ⟨b, off + k * 3, none⟩ = some (.int .i64 e.o) := fun s => s.fr.cell a0
      have p1 : ∀ s : Later wr, s.u.cell? ⟨b, off + k * 3 + 1, none⟩ = some (.int .i64 e.wr) := fun s => s.fr.cell a1
      have p2 : ∀ s : Later wr, s.u.cell? ⟨b, off + k * 3 + 2, none⟩ = some (.slice e.ro e.rn e.rc) := fun s => s.fr.cell a2
      have q0 : ∀ s : Later wr, s.u.cell? ⟨b', off' + k * 3, none⟩ = some (.int .i64 e2.o) := fun s => s.fr.cell x0
      have q1 : ∀ s : Later wr, s.u.cell? ⟨b', off' + k * 3 + 1, none⟩ = some (.int .i64 e2.wr) := fun s => s.fr.cell x1
      have q2 : ∀ s : Later wr, s.u.cell? ⟨b', off' + k * 3 + 2, none⟩ = some (.slice e2.ro e2.rn e2.rc) := fun s => s.fr.cell x2
      clear a0 a1 a2 x0 x1 x2
      go_wp2_with fail
      refine wp_region_grown (by kernel_rfl) (by kernel_rfl) ?_
      repeat (go_big_quiet_step (with_reducible exact Calls.grown_of (cE _)))
      refine wpQuiet_nil ?_
      rintro _ ⟨s, rfl⟩
      go_wp2_with fail
      go_roundw
      case rel => exact ⟨k + 1, by omega, by go_num, hf.trans s.fr⟩
      case measure => simp [intOf]; omega
    · go_wp2_with fail
      go_ret
      exact ⟨rfl, hf⟩

set_option maxHeartbeats 1000000 in
theorem eqScene_same {B B' : Nat → Prop} (s t : Sv) (m : Scn) (w : World) (h : ScR B w s m) (h' : ScR B' w t m) :
    Calls Tryd.prog 9 #[.agg #[.int .i64 s.g, .slice s.lo s.ll s.lc, .slice s.co s.cl s.cc, .slice s.no s.nl s.nc, .slice s.oo s.ol s.oc], .agg #[.int .i64 t.g, .slice t.lo t.ll t.lc, .slice t.co t.cl t.cc, .slice t.no t.nl t.nc, .slice t.oo t.ol t.oc]] w fun e w' => e = .returned (.bool true) ∧ Fr w w' := by
  have f1 := Fr.alloc w (.cells #[.int .i64 s.g, .slice s.lo s.ll s.lc, .slice s.co s.cl s.cc, .slice s.no s.nl s.nc, .slice s.oo s.ol s.oc] 36)
  have f2 := Fr.alloc (w.alloc (.cells #[.int .i64 s.g, .slice s.lo s.ll s.lc, .slice s.co s.cl s.cc, .slice s.no s.nl s.nc, .slice s.oo s.ol s.oc] 36)) (.cells #[.int .i64 t.g, .slice t.lo t.ll t.lc, .slice t.co t.cl t.cc, .slice t.no t.nl t.nc, .slice t.oo t.ol t.oc] 36)
  have k1 := (ScK.new w s).fr f2
  have k2 := ScK.new (w.alloc (.cells #[.int .i64 s.g, .slice s.lo s.ll s.lc, .slice s.co s.cl s.cc, .slice s.no s.nl s.nc, .slice s.oo s.ol s.oc] 36)) t
  simp only [World.size_alloc] at k2
  have F := f1.trans f2
  obtain ⟨es, r1, n1, L1⟩ := h.lks
  obtain ⟨fs, r2, n2, L2⟩ := h'.lks
  have eg : s.g = t.g := h.g.trans h'.g.symm
  have el : s.ll = t.ll := by rw [n1, n2, L1.len, L2.len]
  have ec : s.cl = t.cl := h.cl.trans h'.cl.symm
  have en : s.nl = t.nl := h.nl.trans h'.nl.symm
  have cL := fun u (f : Fr w u) => eqLockS_same s.lo t.lo s.ll s.lc t.lc es fs m.ls u n1.symm (by rw [L1.len]; exact h.sl) (r1.fr f) (r2.fr f) (L1.fr f) (L2.fr f)
  have cC := fun u (f : Fr w u) => eqChanS_same s.co t.co s.cl s.cc t.cc m.cs u h.cl.symm h.sc (h.chs.fr f) (h'.chs.fr f)
  have cN := fun u (f : Fr w u) => eqCountS_same s.no t.no s.nl s.nc t.nc m.gs u h.nl.symm h.sn (h.cts.fr f) (h'.cts.fr f)
  have cO := fun u (f : Fr w u) => eqI_any s.oo t.oo s.ol t.ol s.oc t.oc m.os m.os u h.ol.symm h'.ol.symm (h.ons.fr f) (h'.ons.fr f)
  simp only [decide_true] at cO
  clear h h' r1 n1 L1 r2 n2 L2 f1 f2
  obtain ⟨sg, slo, sll, slc, sco, scl, scc, sno, snl, snc, soo, sol, soc⟩ := s
  obtain ⟨tg, tlo, tll, tlc, tco, tcl, tcc, tno, tnl, tnc, too, tol, toc⟩ := t
  simp only at k1 k2 F eg el ec en cL cC cN cO ⊢
  subst eg el ec en
  go_enter Tryd.func9, Tryd.ntmps9
  go_wp2_with fail
  obtain ⟨W, hW⟩ : ∃ W, W = (w.alloc (.cells #[.int .i64 sg, .slice slo sll slc, .slice sco scl scc, .slice sno snl snc, .slice soo sol soc] 36)).alloc (.cells #[.int .i64 sg, .slice tlo sll tlc, .slice tco scl tcc, .slice tno snl tnc, .slice too tol toc] 36) := ⟨_, rfl⟩
  rw [← hW] at k1 k2 F ⊢
  clear hW
  have HQ : Hid (∀ u, Fr W u → ScB u w.heap.size ⟨sg, slo, sll, slc, sco, scl, scc, sno, snl, snc, soo, sol, soc⟩ ∧ ScB u (w.heap.size + 1) ⟨sg, tlo, sll, tlc, tco, scl, tcc, tno, snl, tnc, too, tol, toc⟩) := fun u f => ⟨(k1.fr f).at, (k2.fr f).at⟩
  clear k1 k2
  refine (cL _ F).mono ?_
  rintro e u1 ⟨rfl, f1⟩
  obtain ⟨⟨s0, s1, s2, s3, s4⟩, ⟨t0, t1, t2, t3, t4⟩⟩ := HQ.out _ f1
  simp only at s0 s1 s2 s3 s4 t0 t1 t2 t3 t4
  go_wp2_with fail
  refine (cC _ (F.trans f1)).mono ?_
  rintro e u2 ⟨rfl, f2⟩
  clear s0 s1 s2 s3 s4 t0 t1 t2 t3 t4
  have f2 := f1.trans f2
  obtain ⟨⟨s0, s1, s2, s3, s4⟩, ⟨t0, t1, t2, t3, t4⟩⟩ := HQ.out _ f2
  simp only at s0 s1 s2 s3 s4 t0 t1 t2 t3 t4
  go_wp2_with fail
  refine (cN _ (F.trans f2)).mono ?_
  rintro e u3 ⟨rfl, f3⟩
  clear s0 s1 s2 s3 s4 t0 t1 t2 t3 t4
  have f3 := f2.trans f3
  obtain ⟨⟨s0, s1, s2, s3, s4⟩, ⟨t0, t1, t2, t3, t4⟩⟩ := HQ.out _ f3
  simp only at s0 s1 s2 s3 s4 t0 t1 t2 t3 t4
  go_wp2_with fail
  refine (cO _ (F.trans f3)).mono ?_
  rintro e u4 ⟨rfl, nq, rfl⟩
  clear s0 s1 s2 s3 s4 t0 t1 t2 t3 t4
  go_wp2_with fail
  go_ret
  exact ⟨rfl, (F.trans f3).trans (Fr.drewN _ nq)⟩
end Go.Proofs.YtpdakokmckmbgaaDoor
