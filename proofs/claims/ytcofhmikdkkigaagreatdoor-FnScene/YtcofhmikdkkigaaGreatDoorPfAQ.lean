/-
  Pack AQ: ScSet, ScCt.
-/
import Derived.Test.YtcofhmikdkkigaaGreatDoorPfAJ
import Derived.Test.YtcofhmikdkkigaaGreatDoorPfAE
import Derived.Test.YtcofhmikdkkigaaGreatDoorPfAG
namespace Go.Proofs.YtcofhmikdkkigaaGreatDoor
open Go.RowKit

theorem Tryz.infoN : (Tryz.prog.info? 92).map (fun i => (i.zero, i.size, i.bytes)) = some (some (.agg #[.int .i64 0, .int .i64 0]), 2, 16) := by kernel_rfl
theorem Tryz.infoC : (Tryz.prog.info? 89).map (fun i => (i.zero, i.size, i.bytes)) = some (some (.agg #[.int .i64 0, .int .i64 0, .int .i64 0, .int .i64 0, .bool false]), 5, 40) := by kernel_rfl
theorem Tryz.infoL : (Tryz.prog.info? 86).map (fun i => (i.zero, i.size, i.bytes)) = some (some (.agg #[.int .i64 0, .int .i64 0, .slice none 0 0]), 3, 40) := by kernel_rfl

theorem newN (w : World) (c : Ct) (k : Nat) (hk : k < 2) : (w.alloc (.cells #[.int .i64 c.o, .int .i64 c.n] 92)).cell? ⟨w.heap.size, k, none⟩ = (layN.cs c)[k]? := by
  match k, hk with
  | 0, _ => simp [go_sem, layN]
  | 1, _ => simp [go_sem, layN]
theorem newC (w : World) (c : Ch) (k : Nat) (hk : k < 5) : (w.alloc (.cells #[.int .i64 c.o, .int .i64 c.cap, .int .i64 c.sent, .int .i64 c.got, .bool c.cl] 89)).cell? ⟨w.heap.size, k, none⟩ = (layC.cs c)[k]? := by
  match k, hk with
  | 0, _ => simp [go_sem, layC]
  | 1, _ => simp [go_sem, layC]
  | 2, _ => simp [go_sem, layC]
  | 3, _ => simp [go_sem, layC]
  | 4, _ => simp [go_sem, layC]
theorem newL (w : World) (c : Lv) (k : Nat) (hk : k < 3) : (w.alloc (.cells #[.int .i64 c.o, .int .i64 c.wr, .slice c.ro c.rn c.rc] 86)).cell? ⟨w.heap.size, k, none⟩ = (layL.cs c)[k]? := by
  match k, hk with
  | 0, _ => simp [go_sem, layL]
  | 1, _ => simp [go_sem, layL]
  | 2, _ => simp [go_sem, layL]

theorem appN (w : World) {ops : Array Oper} {rest : List Oper} {o : Oper} {a : Act} {Q : Exit → Act → World → Prop} (hgd : o.guard = none) (s x : Operand)
    (ho : o.op = .call { callee := .builtin .append, args := #[s, x], argTypes := #[26, 26] }) (base : Nat) (v : Value) (xs : List Ct) (e : Ct) (hs : a.eval s = v)
    (hown : OwnG layN w base v xs) (hx : a.eval x = .slice (some ⟨w.heap.size, 0, none⟩) 1 1) (hlen : xs.length ≤ 16777215) (hbase : base ≤ w.heap.size)
    (h : ∀ v' w', OwnG layN w' base v' (xs ++ [e]) → (w.alloc (.cells #[.int .i64 e.o, .int .i64 e.n] 92)).grownBy w' v.ownBlock → wpList Tryz.prog ops Q rest (a.put o.dst v') w') :
    wpList Tryz.prog ops Q (o :: rest) a (w.alloc (.cells #[.int .i64 e.o, .int .i64 e.n] 92)) :=
  appG layN _ hgd s x _ _ _ ho Tryz.underlying26 Tryz.infoN rfl (by decide) base v xs e hs (hown.fr (Fr.alloc _ _)) _ _ hx (newN w e) hlen (Nat.le_trans hbase (Fr.alloc w _).size) (fun v' w' a b _ => h v' w' a b)
theorem appC (w : World) {ops : Array Oper} {rest : List Oper} {o : Oper} {a : Act} {Q : Exit → Act → World → Prop} (hgd : o.guard = none) (s x : Operand)
    (ho : o.op = .call { callee := .builtin .append, args := #[s, x], argTypes := #[25, 25] }) (base : Nat) (v : Value) (xs : List Ch) (e : Ch) (hs : a.eval s = v)
    (hown : OwnG layC w base v xs) (hx : a.eval x = .slice (some ⟨w.heap.size, 0, none⟩) 1 1) (hlen : xs.length ≤ 16777215) (hbase : base ≤ w.heap.size)
    (h : ∀ v' w', OwnG layC w' base v' (xs ++ [e]) → (w.alloc (.cells #[.int .i64 e.o, .int .i64 e.cap, .int .i64 e.sent, .int .i64 e.got, .bool e.cl] 89)).grownBy w' v.ownBlock → wpList Tryz.prog ops Q rest (a.put o.dst v') w') :
    wpList Tryz.prog ops Q (o :: rest) a (w.alloc (.cells #[.int .i64 e.o, .int .i64 e.cap, .int .i64 e.sent, .int .i64 e.got, .bool e.cl] 89)) :=
  appG layC _ hgd s x _ _ _ ho Tryz.underlying25 Tryz.infoC rfl (by decide) base v xs e hs (hown.fr (Fr.alloc _ _)) _ _ hx (newC w e) hlen (Nat.le_trans hbase (Fr.alloc w _).size) (fun v' w' a b _ => h v' w' a b)
theorem appL (w : World) {ops : Array Oper} {rest : List Oper} {o : Oper} {a : Act} {Q : Exit → Act → World → Prop} (hgd : o.guard = none) (s x : Operand)
    (ho : o.op = .call { callee := .builtin .append, args := #[s, x], argTypes := #[24, 24] }) (base : Nat) (v : Value) (xs : List Lv) (e : Lv) (hs : a.eval s = v)
    (hown : OwnG layL w base v xs) (hx : a.eval x = .slice (some ⟨w.heap.size, 0, none⟩) 1 1) (hlen : xs.length ≤ 16777215) (hbase : base ≤ w.heap.size)
    (h : ∀ v' w', OwnG layL w' base v' (xs ++ [e]) → (w.alloc (.cells #[.int .i64 e.o, .int .i64 e.wr, .slice e.ro e.rn e.rc] 86)).grownBy w' v.ownBlock → wpList Tryz.prog ops Q rest (a.put o.dst v') w') :
    wpList Tryz.prog ops Q (o :: rest) a (w.alloc (.cells #[.int .i64 e.o, .int .i64 e.wr, .slice e.ro e.rn e.rc] 86)) :=
  appG layL _ hgd s x _ _ _ ho Tryz.underlying24 Tryz.infoL rfl (by decide) base v xs e hs (hown.fr (Fr.alloc _ _)) _ _ hx (newL w e) hlen (Nat.le_trans hbase (Fr.alloc w _).size) (fun v' w' a b _ => h v' w' a b)

theorem setL_mem {α : Type} (key : α → Int) (x : α) (put : Bool) (xs : List α) : ∀ y ∈ setL key x put xs, y ∈ xs ∨ y = x := by
  have hP : ∀ (ys : List α) (a : List α × Bool), (∀ y ∈ (ys.foldl (setS key x) a).1, y ∈ a.1 ∨ y ∈ ys ∨ y = x) := by
    intro ys
    induction ys with
    | nil => intro a y hy; exact .inl hy
    | cons z zs ih =>
      intro a y hy
      rcases ih _ y hy with h | h | h
      · unfold setS at h
        dsimp only at h
        split at h <;> split at h <;> grind
      · exact .inr (.inl (List.mem_cons_of_mem _ h))
      · exact .inr (.inr h)
  intro y hy
  unfold setL at hy
  split at hy
  · rcases hP xs _ y hy with h | h | h
    · simp at h
    · exact .inl h
    · exact .inr h
  · rcases List.mem_append.1 hy with hy | hy
    · rcases hP xs _ y hy with h | h | h
      · simp at h
      · exact .inl h
      · exact .inr h
    · exact .inr (by simpa using hy)
theorem setL_len {α : Type} (key : α → Int) (x : α) (put : Bool) (xs : List α) : (setL key x put xs).length ≤ 2 * xs.length + 1 := by
  have := setP_len key x put xs xs.length (Nat.le_refl _)
  rw [List.take_length] at this
  unfold setL
  split
  · omega
  · simp; omega
theorem setL_in {α : Type} {key : α → Int} {x : α} {put : Bool} {xs ys : List α} (h : setP key x put xs = (ys, true)) : setL key x put xs = ys := by
  unfold setL; rw [h]; rfl
theorem setL_end {α : Type} {key : α → Int} {x : α} {put : Bool} {xs ys : List α} (h : setP key x put xs = (ys, false)) : setL key x put xs = ys ++ [x] := by
  unfold setL; rw [h]; rfl

theorem box3 (w : World) (s : Sv) (o : Obj) :
    ScK (((w.alloc (.cells #[.int .i64 s.g, .slice s.lo s.ll s.lc, .slice s.co s.cl s.cc, .slice s.no s.nl s.nc, .slice s.oo s.ol s.oc] 29)).alloc o).alloc (.cells #[.int .i64 0, .slice none 0 0, .slice none 0 0, .slice none 0 0, .slice none 0 0] 29)) w.heap.size s ∧
    ScK (((w.alloc (.cells #[.int .i64 s.g, .slice s.lo s.ll s.lc, .slice s.co s.cl s.cc, .slice s.no s.nl s.nc, .slice s.oo s.ol s.oc] 29)).alloc o).alloc (.cells #[.int .i64 0, .slice none 0 0, .slice none 0 0, .slice none 0 0, .slice none 0 0] 29)) (w.heap.size + 2) ⟨0, none, 0, 0, none, 0, 0, none, 0, 0, none, 0, 0⟩ ∧
    Fr w (((w.alloc (.cells #[.int .i64 s.g, .slice s.lo s.ll s.lc, .slice s.co s.cl s.cc, .slice s.no s.nl s.nc, .slice s.oo s.ol s.oc] 29)).alloc o).alloc (.cells #[.int .i64 0, .slice none 0 0, .slice none 0 0, .slice none 0 0, .slice none 0 0] 29)) ∧
    (((w.alloc (.cells #[.int .i64 s.g, .slice s.lo s.ll s.lc, .slice s.co s.cl s.cc, .slice s.no s.nl s.nc, .slice s.oo s.ol s.oc] 29)).alloc o).alloc (.cells #[.int .i64 0, .slice none 0 0, .slice none 0 0, .slice none 0 0, .slice none 0 0] 29)).heap.size = w.heap.size + 3 ∧
    Fr ((w.alloc (.cells #[.int .i64 s.g, .slice s.lo s.ll s.lc, .slice s.co s.cl s.cc, .slice s.no s.nl s.nc, .slice s.oo s.ol s.oc] 29)).alloc o) (((w.alloc (.cells #[.int .i64 s.g, .slice s.lo s.ll s.lc, .slice s.co s.cl s.cc, .slice s.no s.nl s.nc, .slice s.oo s.ol s.oc] 29)).alloc o).alloc (.cells #[.int .i64 0, .slice none 0 0, .slice none 0 0, .slice none 0 0, .slice none 0 0] 29)) := by
  have f1 := Fr.alloc w (.cells #[.int .i64 s.g, .slice s.lo s.ll s.lc, .slice s.co s.cl s.cc, .slice s.no s.nl s.nc, .slice s.oo s.ol s.oc] 29)
  have f2 := Fr.alloc (w.alloc (.cells #[.int .i64 s.g, .slice s.lo s.ll s.lc, .slice s.co s.cl s.cc, .slice s.no s.nl s.nc, .slice s.oo s.ol s.oc] 29)) o
  have f3 := Fr.alloc ((w.alloc (.cells #[.int .i64 s.g, .slice s.lo s.ll s.lc, .slice s.co s.cl s.cc, .slice s.no s.nl s.nc, .slice s.oo s.ol s.oc] 29)).alloc o) (.cells #[.int .i64 0, .slice none 0 0, .slice none 0 0, .slice none 0 0, .slice none 0 0] 29)
  refine ⟨(ScK.new w s).fr (f2.trans f3), ?_, (f1.trans f2).trans f3, by simp, f3⟩
  have := ScK.new ((w.alloc (.cells #[.int .i64 s.g, .slice s.lo s.ll s.lc, .slice s.co s.cl s.cc, .slice s.no s.nl s.nc, .slice s.oo s.ol s.oc] 29)).alloc o) ⟨0, none, 0, 0, none, 0, 0, none, 0, 0, none, 0, 0⟩
  simpa using this

theorem set_fin {α : Type} {L : Lay α} {w W w4 : World} {b0 rb i : Nat} {v x v0 v1 v2 v3 v4 : Value} {xs : List α} (fW : Fr w W) (f4 : Fr W w4) (hb : w.heap.size ≤ b0) (hr : w.heap.size ≤ rb) (hb2 : b0 < W.heap.size) (hr2 : rb < W.heap.size) (ho : OwnG L w4 W.heap.size v xs) :
    Fr w ((((((w4.setCell ⟨b0, i, none⟩ x).setCell ⟨rb, 0, none⟩ v0).setCell ⟨rb, 1, none⟩ v1).setCell ⟨rb, 2, none⟩ v2).setCell ⟨rb, 3, none⟩ v3).setCell ⟨rb, 4, none⟩ v4) ∧
    OwnG L ((((((w4.setCell ⟨b0, i, none⟩ x).setCell ⟨rb, 0, none⟩ v0).setCell ⟨rb, 1, none⟩ v1).setCell ⟨rb, 2, none⟩ v2).setCell ⟨rb, 3, none⟩ v3).setCell ⟨rb, 4, none⟩ v4) W.heap.size v xs := by
  have k1 := grown_set w4 b0 i x
  have k2 := put5 (w4.setCell ⟨b0, i, none⟩ x) rb v0 v1 v2 v3 v4
  have hk := ho.blk
  refine ⟨((fW.trans f4).then k1 (one_blk hb)).then k2 (one_blk hr), (ho.keep k1 ?_).keep k2 ?_⟩
  · intro e; have := hk _ e; omega
  · intro e; have := hk _ e; omega
theorem OwnG.at {α : Type} {L : Lay α} {w : World} {base g n cap : Nat} {xs : List α} (h : OwnG L w base (.slice (some ⟨g, 0, none⟩) n cap) xs) : ReadsG L w (some ⟨g, 0, none⟩) xs ∧ n = xs.length ∧ base ≤ g := by
  have hk := h.blk g rfl
  obtain ⟨g', cap', e, ho, hl⟩ := h
  simp at e
  obtain ⟨rfl, rfl, rfl⟩ := e
  exact ⟨own_readsG ho hl, rfl, hk⟩

theorem ScR.counts {B : Nat → Prop} {w w' : World} {s : Sv} {m : Scn} {o n : Int} {c g l : Nat} (h : ScR B w s m) (f : Fr w w') (hB : B g) (ho : I64 o) (hn : I64 n) (hl : m.gs.length ≤ 1000)
    (hr : ReadsG layN w' (some ⟨g, 0, none⟩) (setCt m o n).gs) (hlen : l = (setCt m o n).gs.length) : ScR B w' { s with no := some ⟨g, 0, none⟩, nl := l, nc := c } (setCt m o n) := by
  have h' := h.fr f
  have h2 := setL_len Ct.o ⟨o, n⟩ (n == 0) m.gs
  have h3 := setL_mem Ct.o ⟨o, n⟩ (n == 0) m.gs
  refine { h' with cts := hr, nl := hlen, bn := ?_, sn := ?_, inn := ?_ }
  · intro b hb
    simp only [blk, Option.map_some, Option.some.injEq] at hb
    subst hb
    exact hB
  · show (setL Ct.o ⟨o, n⟩ (n == 0) m.gs).length ≤ 1048576
    omega
  · intro y hy
    rcases h3 y hy with hy | rfl
    · exact h.inn y hy
    · exact ⟨ho, hn⟩
end Go.Proofs.YtcofhmikdkkigaaGreatDoor
namespace Go.Proofs.YtcofhmikdkkigaaGreatDoor
open Go.RowKit

theorem sameCell {W wr w4 : World} {bl off k : Nat} {gs : List Ct} {v : Value} (d : wr.cell? ⟨bl, off + k * 2, none⟩ = some v) (f : Fr W wr) (f4 : Fr W w4) (h : ReadsG layN W (some ⟨bl, off, none⟩) gs) (hk : k < gs.length) : w4.cell? ⟨bl, off + k * 2, none⟩ = some v := by
  obtain ⟨b, o, e, h0, -⟩ := ct_at h k hk
  simp only [Option.some.injEq, Addr.mk.injEq, and_true] at e
  obtain ⟨rfl, rfl⟩ := e
  have := f.cell h0
  rw [d] at this
  rw [f4.cell h0, this]

theorem sameCell1 {W wr w4 : World} {bl off k : Nat} {gs : List Ct} {v : Value} (d : wr.cell? ⟨bl, off + k * 2 + 1, none⟩ = some v) (f : Fr W wr) (f4 : Fr W w4) (h : ReadsG layN W (some ⟨bl, off, none⟩) gs) (hk : k < gs.length) : w4.cell? ⟨bl, off + k * 2 + 1, none⟩ = some v := by
  obtain ⟨b, o, e, -, h0⟩ := ct_at h k hk
  simp only [Option.some.injEq, Addr.mk.injEq, and_true] at e
  obtain ⟨rfl, rfl⟩ := e
  have := f.cell h0
  rw [d] at this
  rw [f4.cell h0, this]

set_option maxRecDepth 20000 in
set_option maxHeartbeats 2000000 in
theorem l4SetCount_any {B : Nat → Prop} (s : Sv) (m : Scn) (o n : Int) (w : World) (ho : I64 o) (hn : I64 n) (hl : m.gs.length ≤ 1000) (h : ScR B w s m) :
    Calls Tryz.prog 169 #[.agg #[.int .i64 s.g, .slice s.lo s.ll s.lc, .slice s.co s.cl s.cc, .slice s.no s.nl s.nc, .slice s.oo s.ol s.oc], .int .i64 o, .int .i64 n] w fun e w' => ∃ s' : Sv, e = .returned (.agg #[.int .i64 s'.g, .slice s'.lo s'.ll s'.lc, .slice s'.co s'.cl s'.cc, .slice s'.no s'.nl s'.nc, .slice s'.oo s'.ol s'.oc]) ∧ ScR (Grew B w w') w' s' (setCt m o n) ∧ Fr w w' := by
  have hr := h.cts
  have hN := h.nl
  have HR : Hid (ScR B w s m) := h
  clear h
  have f1 := Fr.alloc w (.cells #[.int .i64 s.g, .slice s.lo s.ll s.lc, .slice s.co s.cl s.cc, .slice s.no s.nl s.nc, .slice s.oo s.ol s.oc] 29)
  have f2 := Fr.alloc (w.alloc (.cells #[.int .i64 s.g, .slice s.lo s.ll s.lc, .slice s.co s.cl s.cc, .slice s.no s.nl s.nc, .slice s.oo s.ol s.oc] 29)) (.cells #[.int .i64 0, .slice none 0 0, .slice none 0 0, .slice none 0 0, .slice none 0 0] 29)
  have k1 := (ScK.new w s).fr f2
  have k2 := ScK.new (w.alloc (.cells #[.int .i64 s.g, .slice s.lo s.ll s.lc, .slice s.co s.cl s.cc, .slice s.no s.nl s.nc, .slice s.oo s.ol s.oc] 29)) ⟨0, none, 0, 0, none, 0, 0, none, 0, 0, none, 0, 0⟩
  have fW := f1.trans f2
  obtain ⟨g, lo, ll, lc, co, cl, cc, no, nl, nc, oo, ol, oc⟩ := s
  simp only at hr hN k1 k2 fW ⊢
  subst hN
  obtain ⟨gs, hgs⟩ : ∃ gs, gs = m.gs := ⟨_, rfl⟩
  have HG : Hid (m.gs = gs) := hgs.symm
  rw [← hgs] at hr hl k1 k2 fW ⊢
  rw [← hgs] at HR
  clear hgs f1 f2
  go_enter Tryz.func169, Tryz.ntmps169
  go_wp2_with fail
  obtain ⟨W, hW⟩ : ∃ W, W = (w.alloc (.cells #[.int .i64 g, .slice lo ll lc, .slice co cl cc, .slice no gs.length nc, .slice oo ol oc] 29)).alloc (.cells #[.int .i64 0, .slice none 0 0, .slice none 0 0, .slice none 0 0, .slice none 0 0] 29) := ⟨_, rfl⟩
  have hz : w.heap.size + 2 = W.heap.size := by rw [hW]; simp
  rw [← hW] at k1 k2 fW ⊢
  simp only [World.size_alloc] at k2
  obtain ⟨b0, hbb⟩ : ∃ b0, b0 = w.heap.size := ⟨_, rfl⟩
  rw [← hbb] at k1 k2 hz ⊢
  have HB : Hid (b0 = w.heap.size) := hbb
  clear hW hbb
  have hl1 := hl
  go_loopw [7, 8, 9] (fun u q i wr => ∃ (k : Nat) (ys : List Ct) (b : Bool), k ≤ gs.length ∧ i = .int .i64 k ∧ q = .bool b ∧ Hid (setP Ct.o ⟨o, n⟩ (n == 0) (gs.take k) = (ys, b)) ∧ ys.length ≤ 2 * k ∧ OwnG layN wr W.heap.size u ys ∧ Fr W wr) (fun _ _ i _ => gs.length - (intOf i).toNat)
  case atStart => exact ⟨0, [], _, Nat.zero_le _, rfl, rfl, rfl, by simp, by rw [hz]; exact ownG_new layN W _ (Nat.le_refl _), Fr.alloc W _⟩
  case round =>
    obtain ⟨k, ys, b, hk, rfl, rfl, HP, hyl, hown, hf⟩ := hrel
    have hs := hf.size
    have hbk := hown.blk
    by_cases hlt : k < gs.length
    · obtain ⟨bl, off, rfl, d0, d1⟩ := ct_at (hr.fr (fW.trans hf)) k hlt
      have c3 := (k1.fr hf).at.c3
      simp only at c3
      have HS : Hid (setP Ct.o ⟨o, n⟩ (n == 0) (gs.take (k + 1)) = setS Ct.o ⟨o, n⟩ (ys, b) gs[k]) := by
        show setP Ct.o ⟨o, n⟩ (n == 0) (gs.take (k + 1)) = setS Ct.o ⟨o, n⟩ (ys, b) gs[k]
        rw [setP_step Ct.o _ _ gs k hlt, HP.out]
      obtain ⟨y, hy⟩ : ∃ y, y = gs[k] := ⟨_, rfl⟩
      simp only [← hy] at d0 d1
      rw [← hy] at HS
      clear hy HP
      have hsz : W.heap.size ≤ wr.heap.size := hs
      have HZ : Hid (b0 + 2 = W.heap.size) := hz
      clear hz
      obtain ⟨yo, yn⟩ := y
      simp only at d0 d1
      cases b
      · by_cases h1 : o ≤ yo
        · by_cases h2 : yo = o
          · have e2 : (yo == o) = true := beq_iff_eq.2 h2
            have HN : Hid (setP Ct.o ⟨o, n⟩ (n == 0) (gs.take (k + 1)) = (ys ++ [⟨o, n⟩], true)) := by
              show setP Ct.o ⟨o, n⟩ (n == 0) (gs.take (k + 1)) = (ys ++ [⟨o, n⟩], true)
              rw [HS.out]; exact setS_at h2
            clear HS h2
            go_wp2_with (at_builtin; refine appN _ rfl _ _ rfl W.heap.size u7 ys ⟨o, n⟩ rfl hown rfl (by omega) hsz ?_; intro v1 w4 hv1 hg1; have f4 := (hf.trans (Fr.alloc _ _)).then hg1 hbk; have c34 := (k1.fr f4).at.c3; simp only at c34; have d04 := sameCell d0 hf f4 (hr.fr fW) hlt; clear hg1 c3 d0)
            go_roundw
            case rel => exact ⟨k + 1, _, _, by omega, by go_num, rfl, HN, by simp; omega, hv1, f4⟩
            case measure => simp [intOf]; omega
          · have e2 : (yo == o) = false := beq_eq_false_iff_ne.2 h2
            have HN : Hid (setP Ct.o ⟨o, n⟩ (n == 0) (gs.take (k + 1)) = (ys ++ [⟨o, n⟩] ++ [⟨yo, yn⟩], true)) := by
              show setP Ct.o ⟨o, n⟩ (n == 0) (gs.take (k + 1)) = (ys ++ [⟨o, n⟩] ++ [⟨yo, yn⟩], true)
              rw [HS.out]; exact setS_in (show o < yo by omega)
            clear HS h2
            go_wp2_with (at_builtin; first
              | (refine appN _ rfl _ _ rfl W.heap.size u7 ys ⟨o, n⟩ rfl hown rfl (by omega) hsz ?_; intro v1 w4 hv1 hg1; have f4 := (hf.trans (Fr.alloc _ _)).then hg1 hbk; have s4 := f4.size; have c34 := (k1.fr f4).at.c3; simp only at c34; have d04 := sameCell d0 hf f4 (hr.fr fW) hlt; have d14 := sameCell1 d1 hf f4 (hr.fr fW) hlt; clear hg1 c3 d0 d1)
              | (refine appN _ rfl _ _ rfl W.heap.size v1 (ys ++ [⟨o, n⟩]) ⟨yo, yn⟩ rfl hv1 rfl (by simp; omega) s4 ?_; intro v5 w5 hv5 hg5))
            go_roundw
            case rel => exact ⟨k + 1, _, _, by omega, by go_num, rfl, HN, by simp; omega, hv5, (f4.trans (Fr.alloc _ _)).then hg5 hv1.blk⟩
            case measure => simp [intOf]; omega
        · have h3 : yo < o := by omega
          have e2 : (yo == o) = false := beq_eq_false_iff_ne.2 (by omega)
          have HN : Hid (setP Ct.o ⟨o, n⟩ (n == 0) (gs.take (k + 1)) = (ys ++ [⟨yo, yn⟩], false)) := by
            show setP Ct.o ⟨o, n⟩ (n == 0) (gs.take (k + 1)) = (ys ++ [⟨yo, yn⟩], false)
            rw [HS.out]; exact setS_on h3
          clear HS h1
          go_wp2_with (at_builtin; refine appN _ rfl _ _ rfl W.heap.size u7 ys ⟨yo, yn⟩ rfl hown rfl (by omega) hsz ?_; intro v1 w4 hv1 hg1)
          go_roundw
          case rel => exact ⟨k + 1, _, _, by omega, by go_num, rfl, HN, by simp; omega, hv1, (hf.trans (Fr.alloc _ _)).then hg1 hbk⟩
          case measure => simp [intOf]; omega
      · cases e2 : (yo == o)
        · have HN : Hid (setP Ct.o ⟨o, n⟩ (n == 0) (gs.take (k + 1)) = (ys ++ [⟨yo, yn⟩], true)) := by
            show setP Ct.o ⟨o, n⟩ (n == 0) (gs.take (k + 1)) = (ys ++ [⟨yo, yn⟩], true)
            rw [HS.out]; exact setS_go (beq_eq_false_iff_ne.1 e2)
          clear HS
          go_wp2_with (at_builtin; refine appN _ rfl _ _ rfl W.heap.size u7 ys ⟨yo, yn⟩ rfl hown rfl (by omega) hsz ?_; intro v1 w4 hv1 hg1)
          go_roundw
          case rel => exact ⟨k + 1, _, _, by omega, by go_num, rfl, HN, by simp; omega, hv1, (hf.trans (Fr.alloc _ _)).then hg1 hbk⟩
          case measure => simp [intOf]; omega
        · have HN : Hid (setP Ct.o ⟨o, n⟩ (n == 0) (gs.take (k + 1)) = (ys, true)) := by
            show setP Ct.o ⟨o, n⟩ (n == 0) (gs.take (k + 1)) = (ys, true)
            rw [HS.out]; exact setS_by (beq_iff_eq.1 e2)
          clear HS
          go_wp2_with fail
          go_roundw
          case rel => exact ⟨k + 1, _, _, by omega, by go_num, rfl, HN, by omega, hown, hf⟩
          case measure => simp [intOf]; omega
    · have et : k = gs.length := by omega
      subst et
      rw [List.take_length] at HP
      have c3 := (k1.fr hf).at.c3
      simp only at c3
      have HZ : Hid (b0 + 2 = W.heap.size) := hz
      clear hz
      cases b
      · have HN : Hid ((setCt m o n).gs = ys ++ [⟨o, n⟩]) := by
          show setL Ct.o ⟨o, n⟩ (n == 0) m.gs = ys ++ [⟨o, n⟩]
          rw [HG.out]; exact setL_end HP.out
        clear HP
        go_wp2_with (at_builtin; refine appN _ rfl _ _ rfl W.heap.size u7 ys ⟨o, n⟩ rfl hown rfl (by omega) hs ?_; intro v1 w4 hv1 hg1; have f4 := (hf.trans (Fr.alloc _ _)).then hg1 hbk; obtain ⟨gg, cg, rfl, hw, hwl⟩ := hv1; obtain ⟨i0, i1, i2, i3, i4⟩ := (k1.fr f4).at; obtain ⟨j0, j1, j2, j3, j4⟩ := (k2.fr f4).at; have v0 := (k1.fr f4).free 3; have v1 := fun i => (k2.fr f4).free i; simp only at i0 i1 i2 i3 i4 j0 j1 j2 j3 j4; clear hg1 c3)
        refine bodyPost_ret (v := .agg #[.int .i64 g, .slice lo ll lc, .slice co cl cc, .slice (some ⟨gg, 0, none⟩) (ys.length + 1) cg, .slice oo ol oc]) (by simp [results, Tryz.results169, go_sem, j0, j1, j2, j3, j4]) rfl ⟨⟨g, lo, ll, lc, co, cl, cc, some ⟨gg, 0, none⟩, ys.length + 1, cg, oo, ol, oc⟩, rfl, ?_, ?_⟩
        · have hF := set_fin (i := 3) (x := .slice (some ⟨gg, 0, none⟩) (ys.length + 1) cg) (v0 := .int .i64 g) (v1 := .slice lo ll lc) (v2 := .slice co cl cc) (v3 := .slice (some ⟨gg, 0, none⟩) (ys.length + 1) cg) (v4 := .slice oo ol oc) fW f4 (Nat.le_of_eq HB.out.symm) (rb := b0 + 1) (by have := HB.out; omega) (by have := HZ.out; omega) (by have := HZ.out; omega) ⟨gg, cg, rfl, hw, hwl⟩
          have ha := hF.2.at
          exact ScR.counts (HR.out.mono Grew.old) hF.1 (.inr ⟨by have := HZ.out; have := HB.out; have := ha.2.2; omega, hF.2.lt _ rfl⟩) ho hn (by rw [HG.out]; exact hl) (by rw [HN.out]; exact ha.1) (by rw [HN.out]; simp)
        · exact (set_fin fW f4 (Nat.le_of_eq HB.out.symm) (rb := b0 + 1) (by have := HB.out; omega) (by have := HZ.out; omega) (by have := HZ.out; omega) ⟨gg, cg, rfl, hw, hwl⟩).1
      · have HN : Hid ((setCt m o n).gs = ys) := by
          show setL Ct.o ⟨o, n⟩ (n == 0) m.gs = ys
          rw [HG.out]; exact setL_in HP.out
        clear HP
        obtain ⟨gg, cg, rfl, hw, hwl⟩ := hown
        obtain ⟨i0, i1, i2, i3, i4⟩ := (k1.fr hf).at
        obtain ⟨j0, j1, j2, j3, j4⟩ := (k2.fr hf).at
        have v0 := (k1.fr hf).free 3
        have v1 := fun i => (k2.fr hf).free i
        simp only at i0 i1 i2 i3 i4 j0 j1 j2 j3 j4
        clear c3
        go_wp2_with fail
        refine bodyPost_ret (v := .agg #[.int .i64 g, .slice lo ll lc, .slice co cl cc, .slice (some ⟨gg, 0, none⟩) ys.length cg, .slice oo ol oc]) (by simp [results, Tryz.results169, go_sem, j0, j1, j2, j3, j4]) rfl ⟨⟨g, lo, ll, lc, co, cl, cc, some ⟨gg, 0, none⟩, ys.length, cg, oo, ol, oc⟩, rfl, ?_, ?_⟩
        · have hF := set_fin (i := 3) (x := .slice (some ⟨gg, 0, none⟩) ys.length cg) (v0 := .int .i64 g) (v1 := .slice lo ll lc) (v2 := .slice co cl cc) (v3 := .slice (some ⟨gg, 0, none⟩) ys.length cg) (v4 := .slice oo ol oc) fW hf (Nat.le_of_eq HB.out.symm) (rb := b0 + 1) (by have := HB.out; omega) (by have := HZ.out; omega) (by have := HZ.out; omega) ⟨gg, cg, rfl, hw, hwl⟩
          have ha := hF.2.at
          exact ScR.counts (HR.out.mono Grew.old) hF.1 (.inr ⟨by have := HZ.out; have := HB.out; have := ha.2.2; omega, hF.2.lt _ rfl⟩) ho hn (by rw [HG.out]; exact hl) (by rw [HN.out]; exact ha.1) (by rw [HN.out])
        · exact (set_fin fW hf (Nat.le_of_eq HB.out.symm) (rb := b0 + 1) (by have := HB.out; omega) (by have := HZ.out; omega) (by have := HZ.out; omega) ⟨gg, cg, rfl, hw, hwl⟩).1
end Go.Proofs.YtcofhmikdkkigaaGreatDoor
