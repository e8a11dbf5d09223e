/-
  Pack AM: ScImpl3, ScSet.
-/
import Derived.Test.YtplnijpolkflcaaGreatDoorPqAL
import Derived.Test.YtplnijpolkflcaaGreatDoorPqAG
import Derived.Test.YtplnijpolkflcaaGreatDoorPqAI
import Derived.Test.YtplnijpolkflcaaGreatDoorPqAE
namespace Go.Proofs.YtplnijpolkflcaaGreatDoor
open Go.RowKit

set_option maxHeartbeats 2000000 in
theorem implScene_any {B : Nat → Prop} (s : Sv) (m : Scn) (w : World) (h : ScR B w s m) :
    Calls Tryz.prog 19 #[.agg #[.int .i64 s.g, .slice s.lo s.ll s.lc, .slice s.co s.cl s.cc, .slice s.no s.nl s.nc, .slice s.oo s.ol s.oc]] w fun e w' => e = .returned (.bool (scB m)) ∧ Fr w w' := by
  rw [← scB_same m]
  unfold scB2
  have fW := Fr.alloc w (.cells #[.int .i64 s.g, .slice s.lo s.ll s.lc, .slice s.co s.cl s.cc, .slice s.no s.nl s.nc, .slice s.oo s.ol s.oc] 29)
  have k1 := ScK.new w s
  obtain ⟨lvs, r1, n1, L1⟩ := h.lks
  have HG : Hid (s.g = m.g) := h.g
  have hg := h.g
  have cL := fun u (f : Fr w u) (g0 : 1 ≤ m.g) (g1 : m.g ≤ 16) => locksOk_any s.lo s.ll s.lc m.g lvs m.ls u n1.symm (by rw [L1.len]; exact h.sl) g0 g1 (r1.fr f) (L1.fr f)
  have cC := fun u (f : Fr w u) => chansOk_any s.co s.cl s.cc m.cs u h.cl.symm h.sc (h.chs.fr f)
  have cN := fun u (f : Fr w u) => groupsOk_any s.no s.nl s.nc m.gs u h.nl.symm h.sn (h.cts.fr f)
  have cO := fun u (f : Fr w u) => risesI_any s.oo s.ol s.oc m.os 15 u h.ol.symm h.so (h.ons.fr f)
  rw [← hg]
  simp only [← hg] at cL
  clear h hg r1 n1 L1
  obtain ⟨XL, hXL⟩ : ∃ X, X = (m.ls.all (lk2 s.g) && upFrom 15 (-1) (m.ls.map Lk.o)) := ⟨_, rfl⟩
  obtain ⟨XC, hXC⟩ : ∃ X, X = (m.cs.all ch2 && upFrom 15 (-1) (m.cs.map Ch.o)) := ⟨_, rfl⟩
  obtain ⟨XN, hXN⟩ : ∃ X, X = (m.gs.all (fun c => inB 1 1000000 c.n) && upFrom 15 (-1) (m.gs.map Ct.o)) := ⟨_, rfl⟩
  obtain ⟨XO, hXO⟩ : ∃ X, X = upFrom 15 (-1) m.os := ⟨_, rfl⟩
  simp only [← hXL] at cL ⊢
  simp only [← hXC] at cC ⊢
  simp only [← hXN] at cN ⊢
  simp only [← hXO] at cO ⊢
  clear hXL hXC hXN hXO
  obtain ⟨sg, lo, ll, lc, co, cl, cc, no, nl, nc, oo, ol, oc⟩ := s
  simp only at fW k1 cL cC cN cO HG ⊢
  cases hin : inB 1 16 sg
  · go_enter Tryz.func19, Tryz.ntmps19
    go_wp2_with fail
    refine (within_any _ _ _ _).mono ?_
    rintro e y ⟨rfl, rfl⟩
    go_wp2_with fail
    go_ret
    exact ⟨rfl, fW⟩
  have hb := inB_true hin
  obtain ⟨W, hW⟩ : ∃ W, W = w.alloc (.cells #[.int .i64 sg, .slice lo ll lc, .slice co cl cc, .slice no nl nc, .slice oo ol oc] 29) := ⟨_, rfl⟩
  have HQ : Hid (∀ u, Fr W u → ScB u w.heap.size ⟨sg, lo, ll, lc, co, cl, cc, no, nl, nc, oo, ol, oc⟩) := fun u f => by rw [hW] at f; exact (k1.fr f).at
  clear k1
  go_enter Tryz.func19, Tryz.ntmps19
  go_wp2_with fail
  refine (within_any _ _ _ _).mono ?_
  rintro e y ⟨rfl, rfl⟩
  rw [← hW] at fW ⊢
  clear hW
  obtain ⟨s0, s1, s2, s3, s4⟩ := HQ.out _ (Fr.refl _)
  simp only at s0 s1 s2 s3 s4
  simp only [hin]
  go_wp2_with fail
  refine (cL _ fW hb.1 hb.2).mono ?_
  rintro e u1 ⟨rfl, f1⟩
  clear s0 s1 s2 s3 s4 cL
  obtain ⟨s0, s1, s2, s3, s4⟩ := HQ.out _ f1
  simp only at s0 s1 s2 s3 s4
  cases XL
  · go_wp2_with fail
    go_ret
    exact ⟨rfl, fW.trans f1⟩
  go_wp2_with fail
  refine (cC _ (fW.trans f1)).mono ?_
  rintro e u2 ⟨rfl, f2⟩
  have f2 := f1.trans f2
  clear s0 s1 s2 s3 s4 cC
  obtain ⟨s0, s1, s2, s3, s4⟩ := HQ.out _ f2
  simp only at s0 s1 s2 s3 s4
  cases XC
  · go_wp2_with fail
    go_ret
    exact ⟨rfl, fW.trans f2⟩
  go_wp2_with fail
  refine (cN _ (fW.trans f2)).mono ?_
  rintro e u3 ⟨rfl, f3⟩
  have f3 := f2.trans f3
  clear s0 s1 s2 s3 s4 cN
  obtain ⟨s0, s1, s2, s3, s4⟩ := HQ.out _ f3
  simp only at s0 s1 s2 s3 s4
  cases XN
  · go_wp2_with fail
    go_ret
    exact ⟨rfl, fW.trans f3⟩
  go_wp2_with fail
  refine (cO _ (fW.trans f3)).mono ?_
  rintro e u4 ⟨rfl, rfl⟩
  go_wp2_with fail
  go_ret
  exact ⟨by simp, fW.trans f3⟩
end Go.Proofs.YtplnijpolkflcaaGreatDoor
namespace Go.Proofs.YtplnijpolkflcaaGreatDoor
open Go.RowKit

theorem Tryz.infoN : (Tryz.prog.info? 88).map (fun i => (i.zero, i.size, i.bytes)) = some (some (.agg #[.int .i64 0, .int .i64 0]), 2, 16) := by kernel_rfl
theorem Tryz.infoC : (Tryz.prog.info? 85).map (fun i => (i.zero, i.size, i.bytes)) = some (some (.agg #[.int .i64 0, .int .i64 0, .int .i64 0, .int .i64 0, .bool false]), 5, 40) := by kernel_rfl
theorem Tryz.infoL : (Tryz.prog.info? 82).map (fun i => (i.zero, i.size, i.bytes)) = some (some (.agg #[.int .i64 0, .int .i64 0, .slice none 0 0]), 3, 40) := by kernel_rfl

theorem newN (w : World) (c : Ct) (k : Nat) (hk : k < 2) : (w.alloc (.cells #[.int .i64 c.o, .int .i64 c.n] 88)).cell? ⟨w.heap.size, k, none⟩ = (layN.cs c)[k]? := by
  match k, hk with
  | 0, _ => simp [go_sem, layN]
  | 1, _ => simp [go_sem, layN]
theorem newC (w : World) (c : Ch) (k : Nat) (hk : k < 5) : (w.alloc (.cells #[.int .i64 c.o, .int .i64 c.cap, .int .i64 c.sent, .int .i64 c.got, .bool c.cl] 85)).cell? ⟨w.heap.size, k, none⟩ = (layC.cs c)[k]? := by
  match k, hk with
  | 0, _ => simp [go_sem, layC]
  | 1, _ => simp [go_sem, layC]
  | 2, _ => simp [go_sem, layC]
  | 3, _ => simp [go_sem, layC]
  | 4, _ => simp [go_sem, layC]
theorem newL (w : World) (c : Lv) (k : Nat) (hk : k < 3) : (w.alloc (.cells #[.int .i64 c.o, .int .i64 c.wr, .slice c.ro c.rn c.rc] 82)).cell? ⟨w.heap.size, k, none⟩ = (layL.cs c)[k]? := by
  match k, hk with
  | 0, _ => simp [go_sem, layL]
  | 1, _ => simp [go_sem, layL]
  | 2, _ => simp [go_sem, layL]

theorem appN (w : World) {ops : Array Oper} {rest : List Oper} {o : Oper} {a : Act} {Q : Exit → Act → World → Prop} (hgd : o.guard = none) (s x : Operand)
    (ho : o.op = .call { callee := .builtin .append, args := #[s, x], argTypes := #[26, 26] }) (base : Nat) (v : Value) (xs : List Ct) (e : Ct) (hs : a.eval s = v)
    (hown : OwnG layN w base v xs) (hx : a.eval x = .slice (some ⟨w.heap.size, 0, none⟩) 1 1) (hlen : xs.length ≤ 16777215) (hbase : base ≤ w.heap.size)
    (h : ∀ v' w', OwnG layN w' base v' (xs ++ [e]) → (w.alloc (.cells #[.int .i64 e.o, .int .i64 e.n] 88)).grownBy w' v.ownBlock → wpList Tryz.prog ops Q rest (a.put o.dst v') w') :
    wpList Tryz.prog ops Q (o :: rest) a (w.alloc (.cells #[.int .i64 e.o, .int .i64 e.n] 88)) :=
  appG layN _ hgd s x _ _ _ ho Tryz.underlying26 Tryz.infoN rfl (by decide) base v xs e hs (hown.fr (Fr.alloc _ _)) _ _ hx (newN w e) hlen (Nat.le_trans hbase (Fr.alloc w _).size) (fun v' w' a b _ => h v' w' a b)
theorem appC (w : World) {ops : Array Oper} {rest : List Oper} {o : Oper} {a : Act} {Q : Exit → Act → World → Prop} (hgd : o.guard = none) (s x : Operand)
    (ho : o.op = .call { callee := .builtin .append, args := #[s, x], argTypes := #[25, 25] }) (base : Nat) (v : Value) (xs : List Ch) (e : Ch) (hs : a.eval s = v)
    (hown : OwnG layC w base v xs) (hx : a.eval x = .slice (some ⟨w.heap.size, 0, none⟩) 1 1) (hlen : xs.length ≤ 16777215) (hbase : base ≤ w.heap.size)
    (h : ∀ v' w', OwnG layC w' base v' (xs ++ [e]) → (w.alloc (.cells #[.int .i64 e.o, .int .i64 e.cap, .int .i64 e.sent, .int .i64 e.got, .bool e.cl] 85)).grownBy w' v.ownBlock → wpList Tryz.prog ops Q rest (a.put o.dst v') w') :
    wpList Tryz.prog ops Q (o :: rest) a (w.alloc (.cells #[.int .i64 e.o, .int .i64 e.cap, .int .i64 e.sent, .int .i64 e.got, .bool e.cl] 85)) :=
  appG layC _ hgd s x _ _ _ ho Tryz.underlying25 Tryz.infoC rfl (by decide) base v xs e hs (hown.fr (Fr.alloc _ _)) _ _ hx (newC w e) hlen (Nat.le_trans hbase (Fr.alloc w _).size) (fun v' w' a b _ => h v' w' a b)
theorem appL (w : World) {ops : Array Oper} {rest : List Oper} {o : Oper} {a : Act} {Q : Exit → Act → World → Prop} (hgd : o.guard = none) (s x : Operand)
    (ho : o.op = .call { callee := .builtin .append, args := #[s, x], argTypes := #[24, 24] }) (base : Nat) (v : Value) (xs : List Lv) (e : Lv) (hs : a.eval s = v)
    (hown : OwnG layL w base v xs) (hx : a.eval x = .slice (some ⟨w.heap.size, 0, none⟩) 1 1) (hlen : xs.length ≤ 16777215) (hbase : base ≤ w.heap.size)
    (h : ∀ v' w', OwnG layL w' base v' (xs ++ [e]) → (w.alloc (.cells #[.int .i64 e.o, .int .i64 e.wr, .slice e.ro e.rn e.rc] 82)).grownBy w' v.ownBlock → wpList Tryz.prog ops Q rest (a.put o.dst v') w') :
    wpList Tryz.prog ops Q (o :: rest) a (w.alloc (.cells #[.int .i64 e.o, .int .i64 e.wr, .slice e.ro e.rn e.rc] 82)) :=
  appG layL _ hgd s x _ _ _ ho Tryz.underlying24 Tryz.infoL rfl (by decide) base v xs e hs (hown.fr (Fr.alloc _ _)) _ _ hx (newL w e) hlen (Nat.le_trans hbase (Fr.alloc w _).size) (fun v' w' a b _ => h v' w' a b)

theorem setL_mem {α : Type} (key : α → Int) (x : α) (put : Bool) (xs : List α) : ∀ y ∈ setL key x put xs, y ∈ xs ∨ y = x := by
  have hP : ∀ (ys : List α) (a : List α × Bool), (∀ y ∈ (ys.foldl (setS key x) a).1, y ∈ a.1 ∨ y ∈ ys ∨ y = x) := by
    intro ys
    induction ys with
    | nil => intro a y hy; exact .inl hy
    | cons z zs ih =>
      intro a y hy
      rcases ih _ y hy with h | h | h
      · unfold setS at h
        dsimp only at h
        split at h <;> split at h <;> grind
      · exact .inr (.inl (List.mem_cons_of_mem _ h))
      · exact .inr (.inr h)
  intro y hy
  unfold setL at hy
  split at hy
  · rcases hP xs _ y hy with h | h | h
    · simp at h
    · exact .inl h
    · exact .inr h
  · rcases List.mem_append.1 hy with hy | hy
    · rcases hP xs _ y hy with h | h | h
      · simp at h
      · exact .inl h
      · exact .inr h
    · exact .inr (by simpa using hy)
theorem setL_len {α : Type} (key : α → Int) (x : α) (put : Bool) (xs : List α) : (setL key x put xs).length ≤ 2 * xs.length + 1 := by
  have := setP_len key x put xs xs.length (Nat.le_refl _)
  rw [List.take_length] at this
  unfold setL
  split
  · omega
  · simp; omega
theorem setL_in {α : Type} {key : α → Int} {x : α} {put : Bool} {xs ys : List α} (h : setP key x put xs = (ys, true)) : setL key x put xs = ys := by
  unfold setL; rw [h]; rfl
theorem setL_end {α : Type} {key : α → Int} {x : α} {put : Bool} {xs ys : List α} (h : setP key x put xs = (ys, false)) : setL key x put xs = ys ++ [x] := by
  unfold setL; rw [h]; rfl

theorem box3 (w : World) (s : Sv) (o : Obj) :
    ScK (((w.alloc (.cells #[.int .i64 s.g, .slice s.lo s.ll s.lc, .slice s.co s.cl s.cc, .slice s.no s.nl s.nc, .slice s.oo s.ol s.oc] 29)).alloc o).alloc (.cells #[.int .i64 0, .slice none 0 0, .slice none 0 0, .slice none 0 0, .slice none 0 0] 29)) w.heap.size s ∧
    ScK (((w.alloc (.cells #[.int .i64 s.g, .slice s.lo s.ll s.lc, .slice s.co s.cl s.cc, .slice s.no s.nl s.nc, .slice s.oo s.ol s.oc] 29)).alloc o).alloc (.cells #[.int .i64 0, .slice none 0 0, .slice none 0 0, .slice none 0 0, .slice none 0 0] 29)) (w.heap.size + 2) ⟨0, none, 0, 0, none, 0, 0, none, 0, 0, none, 0, 0⟩ ∧
    Fr w (((w.alloc (.cells #[.int .i64 s.g, .slice s.lo s.ll s.lc, .slice s.co s.cl s.cc, .slice s.no s.nl s.nc, .slice s.oo s.ol s.oc] 29)).alloc o).alloc (.cells #[.int .i64 0, .slice none 0 0, .slice none 0 0, .slice none 0 0, .slice none 0 0] 29)) ∧
    (((w.alloc (.cells #[.int .i64 s.g, .slice s.lo s.ll s.lc, .slice s.co s.cl s.cc, .slice s.no s.nl s.nc, .slice s.oo s.ol s.oc] 29)).alloc o).alloc (.cells #[.int .i64 0, .slice none 0 0, .slice none 0 0, .slice none 0 0, .slice none 0 0] 29)).heap.size = w.heap.size + 3 ∧
    Fr ((w.alloc (.cells #[.int .i64 s.g, .slice s.lo s.ll s.lc, .slice s.co s.cl s.cc, .slice s.no s.nl s.nc, .slice s.oo s.ol s.oc] 29)).alloc o) (((w.alloc (.cells #[.int .i64 s.g, .slice s.lo s.ll s.lc, .slice s.co s.cl s.cc, .slice s.no s.nl s.nc, .slice s.oo s.ol s.oc] 29)).alloc o).alloc (.cells #[.int .i64 0, .slice none 0 0, .slice none 0 0, .slice none 0 0, .slice none 0 0] 29)) := by
  have f1 := Fr.alloc w (.cells #[.int .i64 s.g, .slice s.lo s.ll s.lc, .slice s.co s.cl s.cc, .slice s.no s.nl s.nc, .slice s.oo s.ol s.oc] 29)
  have f2 := Fr.alloc (w.alloc (.cells #[.int .i64 s.g, .slice s.lo s.ll s.lc, .slice s.co s.cl s.cc, .slice s.no s.nl s.nc, .slice s.oo s.ol s.oc] 29)) o
  have f3 := Fr.alloc ((w.alloc (.cells #[.int .i64 s.g, .slice s.lo s.ll s.lc, .slice s.co s.cl s.cc, .slice s.no s.nl s.nc, .slice s.oo s.ol s.oc] 29)).alloc o) (.cells #[.int .i64 0, .slice none 0 0, .slice none 0 0, .slice none 0 0, .slice none 0 0] 29)
  refine ⟨(ScK.new w s).fr (f2.trans f3), ?_, (f1.trans f2).trans f3, by simp, f3⟩
  have := ScK.new ((w.alloc (.cells #[.int .i64 s.g, .slice s.lo s.ll s.lc, .slice s.co s.cl s.cc, .slice s.no s.nl s.nc, .slice s.oo s.ol s.oc] 29)).alloc o) ⟨0, none, 0, 0, none, 0, 0, none, 0, 0, none, 0, 0⟩
  simpa using this

theorem set_fin {α : Type} {L : Lay α} {w W w4 : World} {b0 rb i : Nat} {v x v0 v1 v2 v3 v4 : Value} {xs : List α} (fW : Fr w W) (f4 : Fr W w4) (hb : w.heap.size ≤ b0) (hr : w.heap.size ≤ rb) (hb2 : b0 < W.heap.size) (hr2 : rb < W.heap.size) (ho : OwnG L w4 W.heap.size v xs) :
    Fr w ((((((w4.setCell ⟨b0, i, none⟩ x).setCell ⟨rb, 0, none⟩ v0).setCell ⟨rb, 1, none⟩ v1).setCell ⟨rb, 2, none⟩ v2).setCell ⟨rb, 3, none⟩ v3).setCell ⟨rb, 4, none⟩ v4) ∧
    OwnG L ((((((w4.setCell ⟨b0, i, none⟩ x).setCell ⟨rb, 0, none⟩ v0).setCell ⟨rb, 1, none⟩ v1).setCell ⟨rb, 2, none⟩ v2).setCell ⟨rb, 3, none⟩ v3).setCell ⟨rb, 4, none⟩ v4) W.heap.size v xs := by
  have k1 := grown_set w4 b0 i x
  have k2 := put5 (w4.setCell ⟨b0, i, none⟩ x) rb v0 v1 v2 v3 v4
  have hk := ho.blk
  refine ⟨((fW.trans f4).then k1 (one_blk hb)).then k2 (one_blk hr), (ho.keep k1 ?_).keep k2 ?_⟩
  · intro e; have := hk _ e; omega
  · intro e; have := hk _ e; omega
theorem OwnG.at {α : Type} {L : Lay α} {w : World} {base g n cap : Nat} {xs : List α} (h : OwnG L w base (.slice (some ⟨g, 0, none⟩) n cap) xs) : ReadsG L w (some ⟨g, 0, none⟩) xs ∧ n = xs.length ∧ base ≤ g := by
  have hk := h.blk g rfl
  obtain ⟨g', cap', e, ho, hl⟩ := h
  simp at e
  obtain ⟨rfl, rfl, rfl⟩ := e
  exact ⟨own_readsG ho hl, rfl, hk⟩

theorem ScR.counts {B : Nat → Prop} {w w' : World} {s : Sv} {m : Scn} {o n : Int} {c g l : Nat} (h : ScR B w s m) (f : Fr w w') (hB : B g) (ho : I64 o) (hn : I64 n) (hl : m.gs.length ≤ 1000)
    (hr : ReadsG layN w' (some ⟨g, 0, none⟩) (setCt m o n).gs) (hlen : l = (setCt m o n).gs.length) : ScR B w' { s with no := some ⟨g, 0, none⟩, nl := l, nc := c } (setCt m o n) := by
  have h' := h.fr f
  have h2 := setL_len Ct.o ⟨o, n⟩ (n == 0) m.gs
  have h3 := setL_mem Ct.o ⟨o, n⟩ (n == 0) m.gs
  refine { h' with cts := hr, nl := hlen, bn := ?_, sn := ?_, inn := ?_ }
  · intro b hb
    simp only [blk, Option.map_some, Option.some.injEq] at hb
    subst hb
    exact hB
  · show (setL Ct.o ⟨o, n⟩ (n == 0) m.gs).length ≤ 1048576
    omega
  · intro y hy
    rcases h3 y hy with hy | rfl
    · exact h.inn y hy
    · exact ⟨ho, hn⟩
end Go.Proofs.YtplnijpolkflcaaGreatDoor
