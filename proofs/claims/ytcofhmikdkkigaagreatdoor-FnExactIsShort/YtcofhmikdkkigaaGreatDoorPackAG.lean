/-
  Pack AQ: ScSet, ScCt, MapT.
-/
import Derived.Test.YtcofhmikdkkigaaGreatDoorPackAE
import Derived.Test.YtcofhmikdkkigaaGreatDoorPackAA
import Derived.Test.YtcofhmikdkkigaaGreatDoorPackAF
import Derived.DeepKeys4
import Derived.Test.YtcofhmikdkkigaaGreatDoorPackAD
namespace Go.Proofs.YtcofhmikdkkigaaGreatDoor
open Go.RowKit

theorem Tryz.infoN : (Tryz.prog.info? 92).map (fun i => (i.zero, i.size, i.bytes)) = some (some (.agg #[.int .i64 0, .int .i64 0]), 2, 16) := by kernel_rfl
theorem Tryz.infoC : (Tryz.prog.info? 89).map (fun i => (i.zero, i.size, i.bytes)) = some (some (.agg #[.int .i64 0, .int .i64 0, .int .i64 0, .int .i64 0, .bool false]), 5, 40) := by kernel_rfl
theorem Tryz.infoL : (Tryz.prog.info? 86).map (fun i => (i.zero, i.size, i.bytes)) = some (some (.agg #[.int .i64 0, .int .i64 0, .slice none 0 0]), 3, 40) := by kernel_rfl

theorem newN (w : World) (c : Ct) (k : Nat) (hk : k < 2) : (w.alloc (.cells #[.int .i64 c.o, .int .i64 c.n] 92)).cell? ⟨w.heap.size, k, none⟩ = (layN.cs c)[k]? := by
  match k, hk with
  | 0, _ => simp [go_sem, layN]
  | 1, _ => simp [go_sem, layN]
theorem newC (w : World) (c : Ch) (k : Nat) (hk : k < 5) : (w.alloc (.cells #[.int .i64 c.o, .int .i64 c.cap, .int .i64 c.sent, .int .i64 c.got, .bool c.cl] 89)).cell? ⟨w.heap.size, k, none⟩ = (layC.cs c)[k]? := by
  match k, hk with
  | 0, _ => simp [go_sem, layC]
  | 1, _ => simp [go_sem, layC]
  | 2, _ => simp [go_sem, layC]
  | 3, _ => simp [go_sem, layC]
  | 4, _ => simp [go_sem, layC]
theorem newL (w : World) (c : Lv) (k : Nat) (hk : k < 3) : (w.alloc (.cells #[.int .i64 c.o, .int .i64 c.wr, .slice c.ro c.rn c.rc] 86)).cell? ⟨w.heap.size, k, none⟩ = (layL.cs c)[k]? := by
  match k, hk with
  | 0, _ => simp [go_sem, layL]
  | 1, _ => simp [go_sem, layL]
  | 2, _ => simp [go_sem, layL]

theorem appN (w : World) {ops : Array Oper} {rest : List Oper} {o : Oper} {a : Act} {Q : Exit → Act → World → Prop} (hgd : o.guard = none) (s x : Operand)
    (ho : o.op = .call { callee := .builtin .append, args := #[s, x], argTypes := #[26, 26] }) (base : Nat) (v : Value) (xs : List Ct) (e : Ct) (hs : a.eval s = v)
    (hown : OwnG layN w base v xs) (hx : a.eval x = .slice (some ⟨w.heap.size, 0, none⟩) 1 1) (hlen : xs.length ≤ 16777215) (hbase : base ≤ w.heap.size)
    (h : ∀ v' w', OwnG layN w' base v' (xs ++ [e]) → (w.alloc (.cells #[.int .i64 e.o, .int .i64 e.n] 92)).grownBy w' v.ownBlock → wpList Tryz.prog ops Q rest (a.put o.dst v') w') :
    wpList Tryz.prog ops Q (o :: rest) a (w.alloc (.cells #[.int .i64 e.o, .int .i64 e.n] 92)) :=
  appG layN _ hgd s x _ _ _ ho Tryz.underlying26 Tryz.infoN rfl (by decide) base v xs e hs (hown.fr (Fr.alloc _ _)) _ _ hx (newN w e) hlen (Nat.le_trans hbase (Fr.alloc w _).size) (fun v' w' a b _ => h v' w' a b)
theorem appC (w : World) {ops : Array Oper} {rest : List Oper} {o : Oper} {a : Act} {Q : Exit → Act → World → Prop} (hgd : o.guard = none) (s x : Operand)
    (ho : o.op = .call { callee := .builtin .append, args := #[s, x], argTypes := #[25, 25] }) (base : Nat) (v : Value) (xs : List Ch) (e : Ch) (hs : a.eval s = v)
    (hown : OwnG layC w base v xs) (hx : a.eval x = .slice (some ⟨w.heap.size, 0, none⟩) 1 1) (hlen : xs.length ≤ 16777215) (hbase : base ≤ w.heap.size)
    (h : ∀ v' w', OwnG layC w' base v' (xs ++ [e]) → (w.alloc (.cells #[.int .i64 e.o, .int .i64 e.cap, .int .i64 e.sent, .int .i64 e.got, .bool e.cl] 89)).grownBy w' v.ownBlock → wpList Tryz.prog ops Q rest (a.put o.dst v') w') :
    wpList Tryz.prog ops Q (o :: rest) a (w.alloc (.cells #[.int .i64 e.o, .int .i64 e.cap, .int .i64 e.sent, .int .i64 e.got, .bool e.cl] 89)) :=
  appG layC _ hgd s x _ _ _ ho Tryz.underlying25 Tryz.infoC rfl (by decide) base v xs e hs (hown.fr (Fr.alloc _ _)) _ _ hx (newC w e) hlen (Nat.le_trans hbase (Fr.alloc w _).size) (fun v' w' a b _ => h v' w' a b)
theorem appL (w : World) {ops : Array Oper} {rest : List Oper} {o : Oper} {a : Act} {Q : Exit → Act → World → Prop} (hgd : o.guard = none) (s x : Operand)
    (ho : o.op = .call { callee := .builtin .append, args := #[s, x], argTypes := #[24, 24] }) (base : Nat) (v : Value) (xs : List Lv) (e : Lv) (hs : a.eval s = v)
    (hown : OwnG layL w base v xs) (hx : a.eval x = .slice (some ⟨w.heap.size, 0, none⟩) 1 1) (hlen : xs.length ≤ 16777215) (hbase : base ≤ w.heap.size)
    (h : ∀ v' w', OwnG layL w' base v' (xs ++ [e]) → (w.alloc (.cells #[.int .i64 e.o, .int .i64 e.wr, .slice e.ro e.rn e.rc] 86)).grownBy w' v.ownBlock → wpList Tryz.prog ops Q rest (a.put o.dst v') w') :
    wpList Tryz.prog ops Q (o :: rest) a (w.alloc (.cells #[.int .i64 e.o, .int .i64 e.wr, .slice e.ro e.rn e.rc] 86)) :=
  appG layL _ hgd s x _ _ _ ho Tryz.underlying24 Tryz.infoL rfl (by decide) base v xs e hs (hown.fr (Fr.alloc _ _)) _ _ hx (newL w e) hlen (Nat.le_trans hbase (Fr.alloc w _).size) (fun v' w' a b _ => h v' w' a b)

theorem setL_mem {α : Type} (key : α → Int) (x : α) (put : Bool) (xs : List α) : ∀ y ∈ setL key x put xs, y ∈ xs ∨ y = x := by
  have hP : ∀ (ys : List α) (a : List α × Bool), (∀ y ∈ (ys.foldl (setS key x) a).1, y ∈ a.1 ∨ y ∈ ys ∨ y = x) := by
    intro ys
    induction ys with
    | nil => intro a y hy; exact .inl hy
    | cons z zs ih =>
      intro a y hy
      rcases ih _ y hy with h | h | h
      · unfold setS at h
        dsimp only at h
        split at h <;> split at h <;> grind
      · exact .inr (.inl (List.mem_cons_of_mem _ h))
      · exact .inr (.inr h)
  intro y hy
  unfold setL at hy
  split at hy
  · rcases hP xs _ y hy with h | h | h
    · simp at h
    · exact .inl h
    · exact .inr h
  · rcases List.mem_append.1 hy with hy | hy
    · rcases hP xs _ y hy with h | h | h
      · simp at h
      · exact .inl h
      · exact .inr h
    · exact .inr (by simpa using hy)
theorem setL_len {α : Type} (key : α → Int) (x : α) (put : Bool) (xs : List α) : (setL key x put xs).length ≤ 2 * xs.length + 1 := by
  have := setP_len key x put xs xs.length (Nat.le_refl _)
  rw [List.take_length] at this
  unfold setL
  split
  · omega
  · simp; omega
theorem setL_in {α : Type} {key : α → Int} {x : α} {put : Bool} {xs ys : List α} (h : setP key x put xs = (ys, true)) : setL key x put xs = ys := by
  unfold setL; rw [h]; rfl
theorem setL_end {α : Type} {key : α → Int} {x : α} {put : Bool} {xs ys : List α} (h : setP key x put xs = (ys, false)) : setL key x put xs = ys ++ [x] := by
  unfold setL; rw [h]; rfl

theorem box3 (w : World) (s : Sv) (o : Obj) :
    ScK (((w.alloc (.cells #[.int .i64 s.g, .slice s.lo s.ll s.lc, .slice s.co s.cl s.cc, .slice s.no s.nl s.nc, .slice s.oo s.ol s.oc] 29)).alloc o).alloc (.cells #[.int .i64 0, .slice none 0 0, .slice none 0 0, .slice none 0 0, .slice none 0 0] 29)) w.heap.size s ∧
    ScK (((w.alloc (.cells #[.int .i64 s.g, .slice s.lo s.ll s.lc, .slice s.co s.cl s.cc, .slice s.no s.nl s.nc, .slice s.oo s.ol s.oc] 29)).alloc o).alloc (.cells #[.int .i64 0, .slice none 0 0, .slice none 0 0, .slice none 0 0, .slice none 0 0] 29)) (w.heap.size + 2) ⟨0, none, 0, 0, none, 0, 0, none, 0, 0, none, 0, 0⟩ ∧
    Fr w (((w.alloc (.cells #[.int .i64 s.g, .slice s.lo s.ll s.lc, .slice s.co s.cl s.cc, .slice s.no s.nl s.nc, .slice s.oo s.ol s.oc] 29)).alloc o).alloc (.cells #[.int .i64 0, .slice none 0 0, .slice none 0 0, .slice none 0 0, .slice none 0 0] 29)) ∧
    (((w.alloc (.cells #[.int .i64 s.g, .slice s.lo s.ll s.lc, .slice s.co s.cl s.cc, .slice s.no s.nl s.nc, .slice s.oo s.ol s.oc] 29)).alloc o).alloc (.cells #[.int .i64 0, .slice none 0 0, .slice none 0 0, .slice none 0 0, .slice none 0 0] 29)).heap.size = w.heap.size + 3 ∧
    Fr ((w.alloc (.cells #[.int .i64 s.g, .slice s.lo s.ll s.lc, .slice s.co s.cl s.cc, .slice s.no s.nl s.nc, .slice s.oo s.ol s.oc] 29)).alloc o) (((w.alloc (.cells #[.int .i64 s.g, .slice s.lo s.ll s.lc, .slice s.co s.cl s.cc, .slice s.no s.nl s.nc, .slice s.oo s.ol s.oc] 29)).alloc o).alloc (.cells #[.int .i64 0, .slice none 0 0, .slice none 0 0, .slice none 0 0, .slice none 0 0] 29)) := by
  have f1 := Fr.alloc w (.cells #[.int .i64 s.g, .slice s.lo s.ll s.lc, .slice s.co s.cl s.cc, .slice s.no s.nl s.nc, .slice s.oo s.ol s.oc] 29)
  have f2 := Fr.alloc (w.alloc (.cells #[.int .i64 s.g, .slice s.lo s.ll s.lc, .slice s.co s.cl s.cc, .slice s.no s.nl s.nc, .slice s.oo s.ol s.oc] 29)) o
  have f3 := Fr.alloc ((w.alloc (.cells #[.int .i64 s.g, .slice s.lo s.ll s.lc, .slice s.co s.cl s.cc, .slice s.no s.nl s.nc, .slice s.oo s.ol s.oc] 29)).alloc o) (.cells #[.int .i64 0, .slice none 0 0, .slice none 0 0, .slice none 0 0, .slice none 0 0] 29)
  refine ⟨(ScK.new w s).fr (f2.trans f3), ?_, (f1.trans f2).trans f3, by simp, f3⟩
  have := ScK.new ((w.alloc (.cells #[.int .i64 s.g, .slice s.lo s.ll s.lc, .slice s.co s.cl s.cc, .slice s.no s.nl s.nc, .slice s.oo s.ol s.oc] 29)).alloc o) ⟨0, none, 0, 0, none, 0, 0, none, 0, 0, none, 0, 0⟩
  simpa using this

theorem set_fin {α : Type} {L : Lay α} {w W w4 : World} {b0 rb i : Nat} {v x v0 v1 v2 v3 v4 : Value} {xs : List α} (fW : Fr w W) (f4 : Fr W w4) (hb : w.heap.size ≤ b0) (hr : w.heap.size ≤ rb) (hb2 : b0 < W.heap.size) (hr2 : rb < W.heap.size) (ho : OwnG L w4 W.heap.size v xs) :
    Fr w ((((((w4.setCell ⟨b0, i, none⟩ x).setCell ⟨rb, 0, none⟩ v0).setCell ⟨rb, 1, none⟩ v1).setCell ⟨rb, 2, none⟩ v2).setCell ⟨rb, 3, none⟩ v3).setCell ⟨rb, 4, none⟩ v4) ∧
    OwnG L ((((((w4.setCell ⟨b0, i, none⟩ x).setCell ⟨rb, 0, none⟩ v0).setCell ⟨rb, 1, none⟩ v1).setCell ⟨rb, 2, none⟩ v2).setCell ⟨rb, 3, none⟩ v3).setCell ⟨rb, 4, none⟩ v4) W.heap.size v xs := by
  have k1 := grown_set w4 b0 i x
  have k2 := put5 (w4.setCell ⟨b0, i, none⟩ x) rb v0 v1 v2 v3 v4
  have hk := ho.blk
  refine ⟨((fW.trans f4).then k1 (one_blk hb)).then k2 (one_blk hr), (ho.keep k1 ?_).keep k2 ?_⟩
  · intro e; have := hk _ e; omega
  · intro e; have := hk _ e; omega
theorem OwnG.at {α : Type} {L : Lay α} {w : World} {base g n cap : Nat} {xs : List α} (h : OwnG L w base (.slice (some ⟨g, 0, none⟩) n cap) xs) : ReadsG L w (some ⟨g, 0, none⟩) xs ∧ n = xs.length ∧ base ≤ g := by
  have hk := h.blk g rfl
  obtain ⟨g', cap', e, ho, hl⟩ := h
  simp at e
  obtain ⟨rfl, rfl, rfl⟩ := e
  exact ⟨own_readsG ho hl, rfl, hk⟩

theorem ScR.counts {B : Nat → Prop} {w w' : World} {s : Sv} {m : Scn} {o n : Int} {c g l : Nat} (h : ScR B w s m) (f : Fr w w') (hB : B g) (ho : I64 o) (hn : I64 n) (hl : m.gs.length ≤ 1000)
    (hr : ReadsG layN w' (some ⟨g, 0, none⟩) (setCt m o n).gs) (hlen : l = (setCt m o n).gs.length) : ScR B w' { s with no := some ⟨g, 0, none⟩, nl := l, nc := c } (setCt m o n) := by
  have h' := h.fr f
  have h2 := setL_len Ct.o ⟨o, n⟩ (n == 0) m.gs
  have h3 := setL_mem Ct.o ⟨o, n⟩ (n == 0) m.gs
  refine { h' with cts := hr, nl := hlen, bn := ?_, sn := ?_, inn := ?_ }
  · intro b hb
    simp only [blk, Option.map_some, Option.some.injEq] at hb
    subst hb
    exact hB
  · show (setL Ct.o ⟨o, n⟩ (n == 0) m.gs).length ≤ 1048576
    omega
  · intro y hy
    rcases h3 y hy with hy | rfl
    · exact h.inn y hy
    · exact ⟨ho, hn⟩
end Go.Proofs.YtcofhmikdkkigaaGreatDoor
namespace Go.Proofs.YtcofhmikdkkigaaGreatDoor
open Go.RowKit

theorem sameCell {W wr w4 : World} {bl off k : Nat} {gs : List Ct} {v : Value} (d : wr.cell? ⟨bl, off + k * 2, none⟩ = some v) (f : Fr W wr) (f4 : Fr W w4) (h : ReadsG layN W (some ⟨bl, off, none⟩) gs) (hk : k < gs.length) : w4.cell? ⟨bl, off + k * 2, none⟩ = some v := by
  obtain ⟨b, o, e, h0, -⟩ := ct_at h k hk
  simp only [Option.some.injEq, Addr.mk.injEq, and_true] at e
  obtain ⟨rfl, rfl⟩ := e
  have := f.cell h0
  rw [d] at this
  rw [f4.cell h0, this]

theorem sameCell1 {W wr w4 : World} {bl off k : Nat} {gs : List Ct} {v : Value} (d : wr.cell? ⟨bl, off + k * 2 + 1, none⟩ = some v) (f : Fr W wr) (f4 : Fr W w4) (h : ReadsG layN W (some ⟨bl, off, none⟩) gs) (hk : k < gs.length) : w4.cell? ⟨bl, off + k * 2 + 1, none⟩ = some v := by
  obtain ⟨b, o, e, -, h0⟩ := ct_at h k hk
  simp only [Option.some.injEq, Addr.mk.injEq, and_true] at e
  obtain ⟨rfl, rfl⟩ := e
  have := f.cell h0
  rw [d] at this
  rw [f4.cell h0, this]

set_option maxRecDepth 20000 in
set_option maxHeartbeats 2000000 in
theorem l4SetCount_any {B : Nat → Prop} (s : Sv) (m : Scn) (o n : Int) (w : World) (ho : I64 o) (hn : I64 n) (hl : m.gs.length ≤ 1000) (h : ScR B w s m) :
    Calls Tryz.prog 169 #[.agg #[.int .i64 s.g, .slice s.lo s.ll s.lc, .slice s.co s.cl s.cc, .slice s.no s.nl s.nc, .slice s.oo s.ol s.oc], .int .i64 o, .int .i64 n] w fun e w' => ∃ s' : Sv, e = .returned (.agg #[.int .i64 s'.g, .slice s'.lo s'.ll s'.lc, .slice s'.co s'.cl s'.cc, .slice s'.no s'.nl s'.nc, .slice s'.oo s'.ol s'.oc]) ∧ ScR (Grew B w w') w' s' (setCt m o n) ∧ Fr w w' := by
  have hr := h.cts
  have hN := h.nl
  have HR : Hid (ScR B w s m) := h
  clear h
  have f1 := Fr.alloc w (.cells #[.int .i64 s.g, .slice s.lo s.ll s.lc, .slice s.co s.cl s.cc, .slice s.no s.nl s.nc, .slice s.oo s.ol s.oc] 29)
  have f2 := Fr.alloc (w.alloc (.cells #[.int .i64 s.g, .slice s.lo s.ll s.lc, .slice s.co s.cl s.cc, .slice s.no s.nl s.nc, .slice s.oo s.ol s.oc] 29)) (.cells #[.int .i64 0, .slice none 0 0, .slice none 0 0, .slice none 0 0, .slice none 0 0] 29)
  have k1 := (ScK.new w s).fr f2
  have k2 := ScK.new (w.alloc (.cells #[.int .i64 s.g, .slice s.lo s.ll s.lc, .slice s.co s.cl s.cc, .slice s.no s.nl s.nc, .slice s.oo s.ol s.oc] 29)) ⟨0, none, 0, 0, none, 0, 0, none, 0, 0, none, 0, 0⟩
  have fW := f1.trans f2
  obtain ⟨g, lo, ll, lc, co, cl, cc, no, nl, nc, oo, ol, oc⟩ := s
  simp only at hr hN k1 k2 fW ⊢
  subst hN
  obtain ⟨gs, hgs⟩ : ∃ gs, gs = m.gs := ⟨_, rfl⟩
  have HG : Hid (m.gs = gs) := hgs.symm
  rw [← hgs] at hr hl k1 k2 fW ⊢
  rw [← hgs] at HR
  clear hgs f1 f2
  go_enter Tryz.func169, Tryz.ntmps169
  go_wp2_with fail
  obtain ⟨W, hW⟩ : ∃ W, W = (w.alloc (.cells #[.int .i64 g, .slice lo ll lc, .slice co cl cc, .slice no gs.length nc, .slice oo ol oc] 29)).alloc (.cells #[.int .i64 0, .slice none 0 0, .slice none 0 0, .slice none 0 0, .slice none 0 0] 29) := ⟨_, rfl⟩
  have hz : w.heap.size + 2 = W.heap.size := by rw [hW]; simp
  rw [← hW] at k1 k2 fW ⊢
  simp only [World.size_alloc] at k2
  obtain ⟨b0, hbb⟩ : ∃ b0, b0 = w.heap.size := ⟨_, rfl⟩
  rw [← hbb] at k1 k2 hz ⊢
  have HB : Hid (b0 = w.heap.size) := hbb
  clear hW hbb
  have hl1 := hl
  go_loopw [7, 8, 9] (fun u q i wr => ∃ (k : Nat) (ys : List Ct) (b : Bool), k ≤ gs.length ∧ i = .int .i64 k ∧ q = .bool b ∧ Hid (setP Ct.o ⟨o, n⟩ (n == 0) (gs.take k) = (ys, b)) ∧ ys.length ≤ 2 * k ∧ OwnG layN wr W.heap.size u ys ∧ Fr W wr) (fun _ _ i _ => gs.length - (intOf i).toNat)
  case atStart => exact ⟨0, [], _, Nat.zero_le _, rfl, rfl, rfl, by simp, by rw [hz]; exact ownG_new layN W _ (Nat.le_refl _), Fr.alloc W _⟩
  case round =>
    obtain ⟨k, ys, b, hk, rfl, rfl, HP, hyl, hown, hf⟩ := hrel
    have hs := hf.size
    have hbk := hown.blk
    by_cases hlt : k < gs.length
    · obtain ⟨bl, off, rfl, d0, d1⟩ := ct_at (hr.fr (fW.trans hf)) k hlt
      have c3 := (k1.fr hf).at.c3
      simp only at c3
      have HS : Hid (setP Ct.o ⟨o, n⟩ (n == 0) (gs.take (k + 1)) = setS Ct.o ⟨o, n⟩ (ys, b) gs[k]) := by
        show setP Ct.o ⟨o, n⟩ (n == 0) (gs.take (k + 1)) = setS Ct.o ⟨o, n⟩ (ys, b) gs[k]
        rw [setP_step Ct.o _ _ gs k hlt, HP.out]
      obtain ⟨y, hy⟩ : ∃ y, y = gs[k] := ⟨_, rfl⟩
      simp only [← hy] at d0 d1
      rw [← hy] at HS
      clear hy HP
      have hsz : W.heap.size ≤ wr.heap.size := hs
      have HZ : Hid (b0 + 2 = W.heap.size) := hz
      clear hz
      obtain ⟨yo, yn⟩ := y
      simp only at d0 d1
      cases b
      · by_cases h1 : o ≤ yo
        · by_cases h2 : yo = o
          · have e2 : (yo == o) = true := beq_iff_eq.2 h2
            have HN : Hid (setP Ct.o ⟨o, n⟩ (n == 0) (gs.take (k + 1)) = (ys ++ [⟨o, n⟩], true)) := by
              show setP Ct.o ⟨o, n⟩ (n == 0) (gs.take (k + 1)) = (ys ++ [⟨o, n⟩], true)
              rw [HS.out]; exact setS_at h2
            clear HS h2
            go_wp2_with (at_builtin; refine appN _ rfl _ _ rfl W.heap.size u7 ys ⟨o, n⟩ rfl hown rfl (by omega) hsz ?_; intro v1 w4 hv1 hg1; have f4 := (hf.trans (Fr.alloc _ _)).then hg1 hbk; have c34 := (k1.fr f4).at.c3; simp only at c34; have d04 := sameCell d0 hf f4 (hr.fr fW) hlt; clear hg1 c3 d0)
            go_roundw
            case rel => exact ⟨k + 1, _, _, by omega, by go_num, rfl, HN, by simp; omega, hv1, f4⟩
            case measure => simp [intOf]; omega
          · have e2 : (yo == o) = false := beq_eq_false_iff_ne.2 h2
            have HN : Hid (setP Ct.o ⟨o, n⟩ (n == 0) (gs.take (k + 1)) = (ys ++ [⟨o, n⟩] ++ [⟨yo, yn⟩], true)) := by
              show setP Ct.o ⟨o, n⟩ (n == 0) (gs.take (k + 1)) = (ys ++ [⟨o, n⟩] ++ [⟨yo, yn⟩], true)
              rw [HS.out]; exact setS_in (show o < yo by omega)
            clear HS h2
            go_wp2_with (at_builtin; first
              | (refine appN _ rfl _ _ rfl W.heap.size u7 ys ⟨o, n⟩ rfl hown rfl (by omega) hsz ?_; intro v1 w4 hv1 hg1; have f4 := (hf.trans (Fr.alloc _ _)).then hg1 hbk; have s4 := f4.size; have c34 := (k1.fr f4).at.c3; simp only at c34; have d04 := sameCell d0 hf f4 (hr.fr fW) hlt; have d14 := sameCell1 d1 hf f4 (hr.fr fW) hlt; clear hg1 c3 d0 d1)
              | (refine appN _ rfl _ _ rfl W.heap.size v1 (ys ++ [⟨o, n⟩]) ⟨yo, yn⟩ rfl hv1 rfl (by simp; omega) s4 ?_; intro v5 w5 hv5 hg5))
            go_roundw
            case rel => exact ⟨k + 1, _, _, by omega, by go_num, rfl, HN, by simp; omega, hv5, (f4.trans (Fr.alloc _ _)).then hg5 hv1.blk⟩
            case measure => simp [intOf]; omega
        · have h3 : yo < o := by omega
          have e2 : (yo == o) = false := beq_eq_false_iff_ne.2 (by omega)
          have HN : Hid (setP Ct.o ⟨o, n⟩ (n == 0) (gs.take (k + 1)) = (ys ++ [⟨yo, yn⟩], false)) := by
            show setP Ct.o ⟨o, n⟩ (n == 0) (gs.take (k + 1)) = (ys ++ [⟨yo, yn⟩], false)
            rw [HS.out]; exact setS_on h3
          clear HS h1
          go_wp2_with (at_builtin; refine appN _ rfl _ _ rfl W.heap.size u7 ys ⟨yo, yn⟩ rfl hown rfl (by omega) hsz ?_; intro v1 w4 hv1 hg1)
          go_roundw
          case rel => exact ⟨k + 1, _, _, by omega, by go_num, rfl, HN, by simp; omega, hv1, (hf.trans (Fr.alloc _ _)).then hg1 hbk⟩
          case measure => simp [intOf]; omega
      · cases e2 : (yo == o)
        · have HN : Hid (setP Ct.o ⟨o, n⟩ (n == 0) (gs.take (k + 1)) = (ys ++ [⟨yo, yn⟩], true)) := by
            show setP Ct.o ⟨o, n⟩ (n == 0) (gs.take (k + 1)) = (ys ++ [⟨yo, yn⟩], true)
            rw [HS.out]; exact setS_go (beq_eq_false_iff_ne.1 e2)
          clear HS
          go_wp2_with (at_builtin; refine appN _ rfl _ _ rfl W.heap.size u7 ys ⟨yo, yn⟩ rfl hown rfl (by omega) hsz ?_; intro v1 w4 hv1 hg1)
          go_roundw
          case rel => exact ⟨k + 1, _, _, by omega, by go_num, rfl, HN, by simp; omega, hv1, (hf.trans (Fr.alloc _ _)).then hg1 hbk⟩
          case measure => simp [intOf]; omega
        · have HN : Hid (setP Ct.o ⟨o, n⟩ (n == 0) (gs.take (k + 1)) = (ys, true)) := by
            show setP Ct.o ⟨o, n⟩ (n == 0) (gs.take (k + 1)) = (ys, true)
            rw [HS.out]; exact setS_by (beq_iff_eq.1 e2)
          clear HS
          go_wp2_with fail
          go_roundw
          case rel => exact ⟨k + 1, _, _, by omega, by go_num, rfl, HN, by omega, hown, hf⟩
          case measure => simp [intOf]; omega
    · have et : k = gs.length := by omega
      subst et
      rw [List.take_length] at HP
      have c3 := (k1.fr hf).at.c3
      simp only at c3
      have HZ : Hid (b0 + 2 = W.heap.size) := hz
      clear hz
      cases b
      · have HN : Hid ((setCt m o n).gs = ys ++ [⟨o, n⟩]) := by
          show setL Ct.o ⟨o, n⟩ (n == 0) m.gs = ys ++ [⟨o, n⟩]
          rw [HG.out]; exact setL_end HP.out
        clear HP
        go_wp2_with (at_builtin; refine appN _ rfl _ _ rfl W.heap.size u7 ys ⟨o, n⟩ rfl hown rfl (by omega) hs ?_; intro v1 w4 hv1 hg1; have f4 := (hf.trans (Fr.alloc _ _)).then hg1 hbk; obtain ⟨gg, cg, rfl, hw, hwl⟩ := hv1; obtain ⟨i0, i1, i2, i3, i4⟩ := (k1.fr f4).at; obtain ⟨j0, j1, j2, j3, j4⟩ := (k2.fr f4).at; have v0 := (k1.fr f4).free 3; have v1 := fun i => (k2.fr f4).free i; simp only at i0 i1 i2 i3 i4 j0 j1 j2 j3 j4; clear hg1 c3)
        refine bodyPost_ret (v := .agg #[.int .i64 g, .slice lo ll lc, .slice co cl cc, .slice (some ⟨gg, 0, none⟩) (ys.length + 1) cg, .slice oo ol oc]) (by simp [results, Tryz.results169, go_sem, j0, j1, j2, j3, j4]) rfl ⟨⟨g, lo, ll, lc, co, cl, cc, some ⟨gg, 0, none⟩, ys.length + 1, cg, oo, ol, oc⟩, rfl, ?_, ?_⟩
        · have hF := set_fin (i := 3) (x := .slice (some ⟨gg, 0, none⟩) (ys.length + 1) cg) (v0 := .int .i64 g) (v1 := .slice lo ll lc) (v2 := .slice co cl cc) (v3 := .slice (some ⟨gg, 0, none⟩) (ys.length + 1) cg) (v4 := .slice oo ol oc) fW f4 (Nat.le_of_eq HB.out.symm) (rb := b0 + 1) (by have := HB.out; omega) (by have := HZ.out; omega) (by have := HZ.out; omega) ⟨gg, cg, rfl, hw, hwl⟩
          have ha := hF.2.at
          exact ScR.counts (HR.out.mono Grew.old) hF.1 (.inr ⟨by have := HZ.out; have := HB.out; have := ha.2.2; omega, hF.2.lt _ rfl⟩) ho hn (by rw [HG.out]; exact hl) (by rw [HN.out]; exact ha.1) (by rw [HN.out]; simp)
        · exact (set_fin fW f4 (Nat.le_of_eq HB.out.symm) (rb := b0 + 1) (by have := HB.out; omega) (by have := HZ.out; omega) (by have := HZ.out; omega) ⟨gg, cg, rfl, hw, hwl⟩).1
      · have HN : Hid ((setCt m o n).gs = ys) := by
          show setL Ct.o ⟨o, n⟩ (n == 0) m.gs = ys
          rw [HG.out]; exact setL_in HP.out
        clear HP
        obtain ⟨gg, cg, rfl, hw, hwl⟩ := hown
        obtain ⟨i0, i1, i2, i3, i4⟩ := (k1.fr hf).at
        obtain ⟨j0, j1, j2, j3, j4⟩ := (k2.fr hf).at
        have v0 := (k1.fr hf).free 3
        have v1 := fun i => (k2.fr hf).free i
        simp only at i0 i1 i2 i3 i4 j0 j1 j2 j3 j4
        clear c3
        go_wp2_with fail
        refine bodyPost_ret (v := .agg #[.int .i64 g, .slice lo ll lc, .slice co cl cc, .slice (some ⟨gg, 0, none⟩) ys.length cg, .slice oo ol oc]) (by simp [results, Tryz.results169, go_sem, j0, j1, j2, j3, j4]) rfl ⟨⟨g, lo, ll, lc, co, cl, cc, some ⟨gg, 0, none⟩, ys.length, cg, oo, ol, oc⟩, rfl, ?_, ?_⟩
        · have hF := set_fin (i := 3) (x := .slice (some ⟨gg, 0, none⟩) ys.length cg) (v0 := .int .i64 g) (v1 := .slice lo ll lc) (v2 := .slice co cl cc) (v3 := .slice (some ⟨gg, 0, none⟩) ys.length cg) (v4 := .slice oo ol oc) fW hf (Nat.le_of_eq HB.out.symm) (rb := b0 + 1) (by have := HB.out; omega) (by have := HZ.out; omega) (by have := HZ.out; omega) ⟨gg, cg, rfl, hw, hwl⟩
          have ha := hF.2.at
          exact ScR.counts (HR.out.mono Grew.old) hF.1 (.inr ⟨by have := HZ.out; have := HB.out; have := ha.2.2; omega, hF.2.lt _ rfl⟩) ho hn (by rw [HG.out]; exact hl) (by rw [HN.out]; exact ha.1) (by rw [HN.out])
        · exact (set_fin fW hf (Nat.le_of_eq HB.out.symm) (rb := b0 + 1) (by have := HB.out; omega) (by have := HZ.out; omega) (by have := HZ.out; omega) ⟨gg, cg, rfl, hw, hwl⟩).1
end Go.Proofs.YtcofhmikdkkigaaGreatDoor
namespace Go.Proofs.YtcofhmikdkkigaaGreatDoor
open Go.RowKit

theorem laidOutP : laidOutB Tryz.prog = true := by kernel_rfl
theorem rowT : (226 : TypeId) < Tryz.prog.types.size := of_decide_eq_true (by kernel_rfl)
set_option maxRecDepth 20000 in
theorem keyAtT : Tryz.prog.keyTypeAt 3 226 = true := by kernel_rfl
theorem keyedT : Maps.Keyed Tryz.prog 226 := Maps.Keyed.of_law (deep_law_laid laidOutP (m := 3) (by omega) rowT keyAtT (by kernel_rfl))
def thV (sp ob sl : Int) : Value := .agg #[.int .i64 sp, .int .i64 ob, .int .i64 sl, .bool false, .bool false]
def thL (sp ob sl : Int) : Lit := .string (keyBytes [.int .i64 sp, .int .i64 ob, .int .i64 sl, .bool false, .bool false])
set_option maxRecDepth 20000 in
theorem keyTypeT : Tryz.prog.keyType 226 = true := by kernel_rfl
theorem cellsT : Tryz.prog.cellsOf 226 = 5 := by kernel_rfl
theorem cells64 : Tryz.prog.cellsOf 2 = 1 := by kernel_rfl
theorem cellsB : Tryz.prog.cellsOf 4 = 1 := by kernel_rfl
theorem sizeP2 : ∃ n, Tryz.prog.types.size = n + 2 := ⟨Tryz.prog.types.size - 2, by have : 2 ≤ Tryz.prog.types.size := of_decide_eq_true (by kernel_rfl); omega⟩
theorem kl64 (d : Nat) {x : Int} (h : I64 x) : Tryz.prog.keyLits (d + 1) 2 [.int .i64 x] = some [.int .i64 x] := by
  unfold Program.keyLits
  simp only [Tryz.underlying2, lit64 h, and_self, if_true]
theorem klB (d : Nat) (b : Bool) : Tryz.prog.keyLits (d + 1) 4 [.bool b] = some [.bool b] := by
  unfold Program.keyLits
  simp only [Tryz.underlying4]
set_option maxHeartbeats 400000 in
theorem klT (d : Nat) {sp ob sl : Int} (h1 : I64 sp) (h2 : I64 ob) (h3 : I64 sl) : Tryz.prog.keyLits (d + 2) 226 [.int .i64 sp, .int .i64 ob, .int .i64 sl, .bool false, .bool false] = some [.int .i64 sp, .int .i64 ob, .int .i64 sl, .bool false, .bool false] := by
  have e1 := kl64 d h1
  have e2 := kl64 d h2
  have e3 := kl64 d h3
  have e4 := klB d false
  unfold Program.keyLits
  simp only [Tryz.underlying226]
  rw [if_pos ⟨by rw [cellsT]; rfl, by simp⟩]
  simp [e1, e2, e3, e4, cells64, cellsB]
theorem keyOfT {sp ob sl : Int} (h1 : I64 sp) (h2 : I64 ob) (h3 : I64 sl) : keyOf Tryz.prog 226 (thV sp ob sl) = some (thL sp ob sl) := by
  obtain ⟨n, hn⟩ := sizeP2
  have hf : (thV sp ob sl).formed Tryz.prog 226 = true := by
    simp only [thV, Value.formed, Tryz.underlying226, cellsT]
    rfl
  have hk := klT (n + 1) h1 h2 h3
  have hc : (thV sp ob sl).cells.toList = [.int .i64 sp, .int .i64 ob, .int .i64 sl, .bool false, .bool false] := rfl
  unfold keyOf
  simp only [Tryz.underlying226]
  rw [keyTypeT, hf, hn, hc, hk]
  rfl
theorem thL_ne {a b c a' b' c' : Int} (h1 : I64 a) (h2 : I64 b) (h3 : I64 c) (h1' : I64 a') (h2' : I64 b') (h3' : I64 c') (h : ¬ (a = a' ∧ b = b' ∧ c = c')) : thL a b c ≠ thL a' b' c' := by
  intro e
  have := keyedT.inj (keyOfT h1 h2 h3) (e ▸ keyOfT h1' h2' h3')
  apply h
  simpa [thV] using this
def MapT (w : World) (b n : Nat) (G : Int → Int → Int → Nat) : Prop :=
  ∃ D : DataW Value, w.ownsMap Tryz.prog 226 asIs b n D ∧ ∃ f : Int → Int → Int → Option Value, (∀ i j k z, I64 i → I64 j → I64 k → D.atKey (thL i j k) z = ((f i j k).map DataW.held).getD z) ∧ ∀ i j k, (f i j k).getD (psV 0) = psV (G i j k)
theorem MapT.made (w : World) : MapT (w.alloc (.map #[] 0)) w.heap.size 0 (fun _ _ _ => 0) :=
  ⟨.map [], World.ownsMap_made w _ _ _, fun _ _ _ => none, fun _ _ _ _ _ _ _ => rfl, fun _ _ _ => rfl⟩
theorem MapT.keep {w w' : World} {b n : Nat} {G : Int → Int → Int → Nat} {row : Option Nat} (h : MapT w b n G) (k : w.grownBy w' row) (hr : some b ≠ row) : MapT w' b n G := by
  obtain ⟨D, h1, h2⟩ := h
  exact ⟨D, h1.kept k hr, h2⟩
theorem MapT.fr {w w' : World} {b n : Nat} {G : Int → Int → Int → Nat} (h : MapT w b n G) (k : Fr w w') : MapT w' b n G := h.keep k (by simp)
theorem MapT.lt {w : World} {b n : Nat} {G : Int → Int → Int → Nat} (h : MapT w b n G) : b < w.heap.size := by
  obtain ⟨D, h1, _⟩ := h
  exact h1.lt
theorem zeroPs (w : World) : (zeroValue 110).run Tryz.prog w = .ok (psV 0) w := by kernel_rfl
theorem MapT.look {w : World} {b n : Nat} {G : Int → Int → Int → Nat} (h : MapT w b n G) {i j k : Int} (hi : I64 i) (hj : I64 j) (hk : I64 k) :
    (Instr.lookup 218 (.map (some b)) (thV i j k) false).run Tryz.prog w = .ok (psV (G i j k)) w := by
  obtain ⟨D, h1, f, h2, h3⟩ := h
  obtain ⟨v, ps, hrun, hv⟩ := h1.lookup keyedT Tryz.underlying218 (zeroPs w) (zd := .held (psV 0)) (zp := []) rfl (keyOfT hi hj hk)
  simp only [asIs, Option.some.injEq, Prod.mk.injEq] at hv
  have hv := hv.1
  rw [h2 _ _ _ _ hi hj hk] at hv
  have : v = psV (G i j k) := by
    rw [← h3]
    cases hf : f i j k with
    | none => rw [hf] at hv; simpa using hv
    | some u => rw [hf] at hv; simpa using hv
  rw [hrun, this]
theorem MapT.put {w : World} {b n : Nat} {G : Int → Int → Int → Nat} (h : MapT w b n G) (hn : n < maxLen) {i j k : Int} (hi : I64 i) (hj : I64 j) (hk : I64 k) (M : Nat) :
    ∃ w', (Instr.mapUpdate 218 (.map (some b)) (thV i j k) (psV M)).run Tryz.prog w = .ok () w' ∧ MapT w' b (n + 1) (fun a c d => if a = i ∧ c = j ∧ d = k then M else G a c d) ∧ w.grownBy w' (some b) := by
  obtain ⟨D, h1, f, h2, h3⟩ := h
  obtain ⟨w', hrun, h4, h5⟩ := h1.update keyedT Tryz.underlying218 hn (keyOfT hi hj hk) (val := psV M) (d := .held (psV M)) (ps := []) rfl
  refine ⟨w', hrun, ⟨_, h4, fun a c d => if a = i ∧ c = j ∧ d = k then some (psV M) else f a c d, fun a c d z ha hc hd => ?_, fun a c d => ?_⟩, h5⟩
  · show _ = (Option.map DataW.held (if a = i ∧ c = j ∧ d = k then some (psV M) else f a c d)).getD z
    by_cases e : a = i ∧ c = j ∧ d = k
    · obtain ⟨rfl, rfl, rfl⟩ := e
      rw [Maps.atKey_put_same h1.isMap (keyedT.key (keyOfT hi hj hk))]
      simp
    · rw [if_neg e, Maps.atKey_put_other (thL_ne ha hc hd hi hj hk e), h2 _ _ _ _ ha hc hd]
  · show (if a = i ∧ c = j ∧ d = k then some (psV M) else f a c d).getD (psV 0) = psV (if a = i ∧ c = j ∧ d = k then M else G a c d)
    by_cases e : a = i ∧ c = j ∧ d = k
    · rw [if_pos e, if_pos e]
      rfl
    · rw [if_neg e, if_neg e, h3]
end Go.Proofs.YtcofhmikdkkigaaGreatDoor
/-
  Pack AF: ScIs.
-/
namespace Go.Proofs.YtcofhmikdkkigaaGreatDoor
open Go.RowKit

set_option maxRecDepth 20000 in
set_option maxHeartbeats 3000000 in
theorem sceneOk_any {B : Nat → Prop} (s : Sv) (m : Scn) (w : World) (h : ScR B w s m) :
    Calls Tryz.prog 16 #[.agg #[.int .i64 s.g, .slice s.lo s.ll s.lc, .slice s.co s.cl s.cc, .slice s.no s.nl s.nc, .slice s.oo s.ol s.oc]] w fun e w' => e = .returned (.bool (scB m)) ∧ Fr w w' := by
  have hb0 := ScB.new w s
  have hR := h.fr (Fr.alloc w (.cells #[.int .i64 s.g, .slice s.lo s.ll s.lc, .slice s.co s.cl s.cc, .slice s.no s.nl s.nc, .slice s.oo s.ol s.oc] 29))
  have fW := Fr.alloc w (.cells #[.int .i64 s.g, .slice s.lo s.ll s.lc, .slice s.co s.cl s.cc, .slice s.no s.nl s.nc, .slice s.oo s.ol s.oc] 29)
  obtain ⟨g, lo, ll, lc, co, cl, cc, no, nl, nc, oo, ol, oc⟩ := s
  have eg := h.g
  simp only at eg hb0 hR fW ⊢
  have c0 := hb0.c0
  simp only at c0
  unfold scB
  obtain ⟨RC, hRC⟩ : ∃ RC, RC = (rowB chB Ch.o m.cs && (rowB ctB Ct.o m.gs && rowB (inB 0 15) (fun x => x) m.os)) := ⟨_, rfl⟩
  rw [← hRC]
  have HRC : Hid (RC = (rowB chB Ch.o m.cs && (rowB ctB Ct.o m.gs && rowB (inB 0 15) (fun x => x) m.os))) := hRC
  clear hRC
  rw [← eg]
  have HG : Hid (g = m.g) := eg
  clear eg
  cases hg : inB 1 16 g
  · go_enter Tryz.func16, Tryz.ntmps16
    go_wp2_with (go_at_call 60; refine (l1In_any _ _ _ _).mono ?_; rintro e w' ⟨rfl, rfl⟩)
    go_ret
    exact ⟨rfl, fW⟩
  have gr := inB_true hg
  go_enter Tryz.func16, Tryz.ntmps16
  go_wp2_with (go_at_call 60; refine (l1In_any _ _ _ _).mono ?_; rintro e w' ⟨rfl, rfl⟩)
  clear c0 hg h
  obtain ⟨W, hW⟩ : ∃ W, W = w.alloc (.cells #[.int .i64 g, .slice lo ll lc, .slice co cl cc, .slice no nl nc, .slice oo ol oc] 29) := ⟨_, rfl⟩
  rw [← hW] at hb0 hR fW ⊢
  obtain ⟨b0, hbb⟩ : ∃ b0, b0 = w.heap.size := ⟨_, rfl⟩
  rw [← hbb] at hb0 ⊢
  clear hW hbb
  go_loopw [3] (fun i wr => ∃ k : Nat, k ≤ ll ∧ i = .int .i64 k ∧ Hid (∀ j, j < k → rowAt (lkB g) Lk.o m.ls j = true) ∧ ScB wr b0 ⟨g, lo, ll, lc, co, cl, cc, no, nl, nc, oo, ol, oc⟩ ∧ ScR B wr ⟨g, lo, ll, lc, co, cl, cc, no, nl, nc, oo, ol, oc⟩ m ∧ Fr w wr) (fun i _ => ll - (intOf i).toNat)
  case atStart => exact ⟨0, Nat.zero_le _, rfl, fun j hj => by omega, hb0, hR, fW⟩
  case round =>
    clear hb0 hR fW
    obtain ⟨k, hk, rfl, HA, hb0, hR, fW⟩ := hrel
    obtain ⟨lvs, hr, hn, hL⟩ := hR.lks
    have hsl := hR.sl
    have hlen := hL.len
    simp only at hr hn
    have hll : ll ≤ 1048576 := by omega
    by_cases hlt : k < ll
    · have hk2 : k < m.ls.length := by omega
      have hk1 : k < lvs.length := by omega
      obtain ⟨b, off, rfl, d0, d1, d2⟩ := lv_at hr k hk1
      have hLk := hL.at_ k hk1 hk2
      have HO : Hid (lvs[k].o = m.ls[k].o) := hLk.o
      have cL := fun (s : Later wr) => l4Lock_any g lvs[k] m.ls[k] s.u gr.1 gr.2 (hLk.fr s.fr)
      obtain ⟨lv, hlv⟩ : ∃ lv, lv = lvs[k] := ⟨_, rfl⟩
      simp only [← hlv] at d0 d1 d2 HO cL
      clear hlv hLk
      have cc0 := hb0.c0
      have cc1 := hb0.c1
      simp only at cc0 cc1
      have q0 : ∀ s : Later wr, s.u.cell? ⟨b0, 0, none⟩ = some (.int .i64 g) := fun s => s.fr.cell cc0
      have q1 : ∀ s : Later wr, s.u.cell? ⟨b0, 1, none⟩ = some (.slice (some ⟨b, off, none⟩) ll lc) := fun s => s.fr.cell cc1
      have := Later.some wr
      cases hgood : lkB g m.ls[k]
      · have HF : Hid (rowB (lkB g) Lk.o m.ls = false) := rowB_no hk2 (rowAt_bad hk2 (hgood))
        simp only [hgood] at cL
        have p0 : ∀ s : Later wr, s.u.cell? ⟨b, off + k * 3, none⟩ = some (.int .i64 lv.o) := fun s => s.fr.cell d0
        have p1 : ∀ s : Later wr, s.u.cell? ⟨b, off + k * 3 + 1, none⟩ = some (.int .i64 lv.wr) := fun s => s.fr.cell d1
        have p2 : ∀ s : Later wr, s.u.cell? ⟨b, off + k * 3 + 2, none⟩ = some (.slice lv.ro lv.rn lv.rc) := fun s => s.fr.cell d2
        clear hn hlen hgood hr
        go_wp2_with fail
        refine wp_region_grown (by kernel_rfl) (by kernel_rfl) ?_
        repeat (go_big_quiet_step (with_reducible exact Calls.grown_of (cL _)))
        refine wpQuiet_nil ?_
        rintro _ ⟨s, rfl⟩
        go_wp2_with fail
        go_ret
        exact ⟨ret_bool (by rw [HF.out]; rfl), fW.trans s.fr⟩
      simp only [hgood] at cL
      cases k with
      | zero =>
        have HT : Hid (rowAt (lkB g) Lk.o m.ls 0 = true) := rowAt_zero hk2 (by exact hgood)
        simp only [Nat.zero_mul, Nat.add_zero] at d0 d1 d2
        have p0 : ∀ s : Later wr, s.u.cell? ⟨b, off, none⟩ = some (.int .i64 lv.o) := fun s => s.fr.cell d0
        have p1 : ∀ s : Later wr, s.u.cell? ⟨b, off + 1, none⟩ = some (.int .i64 lv.wr) := fun s => s.fr.cell d1
        have p2 : ∀ s : Later wr, s.u.cell? ⟨b, off + 2, none⟩ = some (.slice lv.ro lv.rn lv.rc) := fun s => s.fr.cell d2
        clear hn hlen hgood hr
        go_wp2_with fail
        have hd : decide ((0 : Int) < 0) = false := by decide
        refine wp_region_grown (by kernel_rfl) (by kernel_rfl) ?_
        repeat (go_big_quiet_step (with_reducible exact Calls.grown_of (cL _)))
        refine wpQuiet_nil ?_
        rintro _ ⟨s, rfl⟩
        go_wp2_with fail
        go_roundw
        case rel => exact ⟨1, by omega, by go_num, rowAt_next HA.out HT.out, hb0.keep s.fr (by simp), hR.fr s.fr, fW.trans s.fr⟩
        case measure => simp [intOf]; omega
      | succ k =>
        obtain ⟨b', off', e', t0, -, -⟩ := lv_at hr k (by omega)
        simp only [Option.some.injEq, Addr.mk.injEq, and_true] at e'
        obtain ⟨rfl, rfl⟩ := e'
        have HY : Hid (lvs[k].o = m.ls[k].o) := (hL.at_ k (by omega) (by omega)).o
        obtain ⟨y, hy⟩ : ∃ y, y = lvs[k].o := ⟨_, rfl⟩
        rw [← hy] at t0 HY
        clear hy
        have hwk : IntKind.i64.wrap (((k + 1 : Nat) : Int) - 1) = (k : Int) := by rw [IntKind.wrap_i64]; omega
        have t1 : ∀ s : Later wr, s.u.cell? ⟨b, off + k * 3, none⟩ = some (.int .i64 y) := fun s => s.fr.cell t0
        have p0 : ∀ s : Later wr, s.u.cell? ⟨b, off + (k + 1) * 3, none⟩ = some (.int .i64 lv.o) := fun s => s.fr.cell d0
        have p1 : ∀ s : Later wr, s.u.cell? ⟨b, off + (k + 1) * 3 + 1, none⟩ = some (.int .i64 lv.wr) := fun s => s.fr.cell d1
        have p2 : ∀ s : Later wr, s.u.cell? ⟨b, off + (k + 1) * 3 + 2, none⟩ = some (.slice lv.ro lv.rn lv.rc) := fun s => s.fr.cell d2
        by_cases hle : lv.o ≤ y
        · have HF : Hid (rowB (lkB g) Lk.o m.ls = false) := rowB_no hk2 (rowAt_down hk2 (by have := HO.out; have := HY.out; omega))
          clear hn hlen hgood hr HY
          go_wp2_with fail
          refine wp_region_grown (by kernel_rfl) (by kernel_rfl) ?_
          repeat (go_big_quiet_step (with_reducible exact Calls.grown_of (cL _)))
          refine wpQuiet_nil ?_
          rintro _ ⟨s, rfl⟩
          go_wp2_with fail
          go_ret
          exact ⟨ret_bool (by rw [HF.out]; rfl), fW.trans s.fr⟩
        · have HT : Hid (rowAt (lkB g) Lk.o m.ls (k + 1) = true) := rowAt_up hk2 (by exact hgood) (by have := HO.out; have := HY.out; omega)
          have hle' : y < lv.o := by omega
          clear hn hlen hgood hr HY
          go_wp2_with fail
          refine wp_region_grown (by kernel_rfl) (by kernel_rfl) ?_
          repeat (go_big_quiet_step (with_reducible exact Calls.grown_of (cL _)))
          refine wpQuiet_nil ?_
          rintro _ ⟨s, rfl⟩
          go_wp2_with fail
          go_roundw
          case rel => exact ⟨k + 2, by omega, by go_num, rowAt_next HA.out HT.out, hb0.keep s.fr (by simp), hR.fr s.fr, fW.trans s.fr⟩
          case measure => simp [intOf]; omega
    · have HT1 : Hid (rowB (lkB g) Lk.o m.ls = true) := rowB_yes (fun j hj => HA.out j (by omega))
      have ca := hb0.c0
      have cb := hb0.c1
      have cd := hb0.c2
      simp only at ca cb cd
      clear hr hn hL hlen
      go_wp2_with fail
      clear ca cb cd HA hlt hk
      go_loopw [4] (fun i wr => ∃ k : Nat, k ≤ cl ∧ i = .int .i64 k ∧ Hid (∀ j, j < k → rowAt chB Ch.o m.cs j = true) ∧ ScB wr b0 ⟨g, lo, ll, lc, co, cl, cc, no, nl, nc, oo, ol, oc⟩ ∧ ScR B wr ⟨g, lo, ll, lc, co, cl, cc, no, nl, nc, oo, ol, oc⟩ m ∧ Fr w wr) (fun i _ => cl - (intOf i).toNat)
      case atStart => exact ⟨0, Nat.zero_le _, rfl, fun j hj => by omega, hb0, hR, fW⟩
      case round =>
        clear hb0 hR fW
        obtain ⟨k, hk, rfl, HA, hb0, hR, fW⟩ := hrel
        have hn := hR.cl
        have hsl := hR.sc
        simp only at hn
        have hll : cl ≤ 1048576 := by omega
        by_cases hlt : k < cl
        · have hk2 : k < m.cs.length := by omega
          obtain ⟨b, off, rfl, d0, d1, d2, d3, d4⟩ := ch_at hR.chs k hk2
          obtain ⟨c, hc⟩ : ∃ c, c = m.cs[k] := ⟨_, rfl⟩
          rw [← hc] at d0 d1 d2 d3 d4
          have HZ : Hid (c = m.cs[k]) := hc
          have cC := fun w => l4Chan_any c w
          clear hc
          have cc0 := hb0.c0
          have cc1 := hb0.c2
          simp only at cc0 cc1
          have q0 : ∀ s : Later wr, s.u.cell? ⟨b0, 0, none⟩ = some (.int .i64 g) := fun s => s.fr.cell cc0
          have q1 : ∀ s : Later wr, s.u.cell? ⟨b0, 2, none⟩ = some (.slice (some ⟨b, off, none⟩) cl cc) := fun s => s.fr.cell cc1
          have := Later.some wr
          cases hgood : chB c
          · have HF : Hid (rowB chB Ch.o m.cs = false) := rowB_no hk2 (rowAt_bad hk2 (by rw [← HZ.out]; exact hgood))
            simp only [hgood] at cC
            have p0 : ∀ s : Later wr, s.u.cell? ⟨b, off + k * 5, none⟩ = some (.int .i64 c.o) := fun s => s.fr.cell d0
            have p1 : ∀ s : Later wr, s.u.cell? ⟨b, off + k * 5 + 1, none⟩ = some (.int .i64 c.cap) := fun s => s.fr.cell d1
            have p2 : ∀ s : Later wr, s.u.cell? ⟨b, off + k * 5 + 2, none⟩ = some (.int .i64 c.sent) := fun s => s.fr.cell d2
            have p3 : ∀ s : Later wr, s.u.cell? ⟨b, off + k * 5 + 3, none⟩ = some (.int .i64 c.got) := fun s => s.fr.cell d3
            have p4 : ∀ s : Later wr, s.u.cell? ⟨b, off + k * 5 + 4, none⟩ = some (.bool c.cl) := fun s => s.fr.cell d4
            clear hn hgood
            go_wp2_with fail
            refine wp_region_grown (by kernel_rfl) (by kernel_rfl) ?_
            repeat (go_big_quiet_step (with_reducible exact Calls.grown_of (cC _)))
            refine wpQuiet_nil ?_
            rintro _ ⟨s, rfl⟩
            go_wp2_with fail
            go_ret
            exact ⟨ret_bool (by rw [HRC.out, HT1.out, HF.out]; rfl), fW.trans s.fr⟩
          simp only [hgood] at cC
          cases k with
          | zero =>
            have HT : Hid (rowAt chB Ch.o m.cs 0 = true) := rowAt_zero hk2 (by rw [← HZ.out]; exact hgood)
            simp only [Nat.zero_mul, Nat.add_zero] at d0 d1 d2 d3 d4
            have p0 : ∀ s : Later wr, s.u.cell? ⟨b, off, none⟩ = some (.int .i64 c.o) := fun s => s.fr.cell d0
            have p1 : ∀ s : Later wr, s.u.cell? ⟨b, off + 1, none⟩ = some (.int .i64 c.cap) := fun s => s.fr.cell d1
            have p2 : ∀ s : Later wr, s.u.cell? ⟨b, off + 2, none⟩ = some (.int .i64 c.sent) := fun s => s.fr.cell d2
            have p3 : ∀ s : Later wr, s.u.cell? ⟨b, off + 3, none⟩ = some (.int .i64 c.got) := fun s => s.fr.cell d3
            have p4 : ∀ s : Later wr, s.u.cell? ⟨b, off + 4, none⟩ = some (.bool c.cl) := fun s => s.fr.cell d4
            clear hn hgood
            go_wp2_with fail
            have hd : decide ((0 : Int) < 0) = false := by decide
            refine wp_region_grown (by kernel_rfl) (by kernel_rfl) ?_
            repeat (go_big_quiet_step (with_reducible exact Calls.grown_of (cC _)))
            refine wpQuiet_nil ?_
            rintro _ ⟨s, rfl⟩
            go_wp2_with fail
            go_roundw
            case rel => exact ⟨1, by omega, by go_num, rowAt_next HA.out HT.out, hb0.keep s.fr (by simp), hR.fr s.fr, fW.trans s.fr⟩
            case measure => simp [intOf]; omega
          | succ k =>
            obtain ⟨b', off', e', t0, -⟩ := ch_at hR.chs k (by omega)
            simp only [Option.some.injEq, Addr.mk.injEq, and_true] at e'
            obtain ⟨rfl, rfl⟩ := e'
            obtain ⟨y, hy⟩ : ∃ y, y = (m.cs[k]'(by omega)).o := ⟨_, rfl⟩
            rw [← hy] at t0
            have HY : Hid (y = (m.cs[k]'(by omega)).o) := hy
            clear hy
            have hwk : IntKind.i64.wrap (((k + 1 : Nat) : Int) - 1) = (k : Int) := by rw [IntKind.wrap_i64]; omega
            have t1 : ∀ s : Later wr, s.u.cell? ⟨b, off + k * 5, none⟩ = some (.int .i64 y) := fun s => s.fr.cell t0
            have p0 : ∀ s : Later wr, s.u.cell? ⟨b, off + (k + 1) * 5, none⟩ = some (.int .i64 c.o) := fun s => s.fr.cell d0
            have p1 : ∀ s : Later wr, s.u.cell? ⟨b, off + (k + 1) * 5 + 1, none⟩ = some (.int .i64 c.cap) := fun s => s.fr.cell d1
            have p2 : ∀ s : Later wr, s.u.cell? ⟨b, off + (k + 1) * 5 + 2, none⟩ = some (.int .i64 c.sent) := fun s => s.fr.cell d2
            have p3 : ∀ s : Later wr, s.u.cell? ⟨b, off + (k + 1) * 5 + 3, none⟩ = some (.int .i64 c.got) := fun s => s.fr.cell d3
            have p4 : ∀ s : Later wr, s.u.cell? ⟨b, off + (k + 1) * 5 + 4, none⟩ = some (.bool c.cl) := fun s => s.fr.cell d4
            by_cases hle : c.o ≤ y
            · have HF : Hid (rowB chB Ch.o m.cs = false) := rowB_no hk2 (rowAt_down hk2 (by have := HY.out; rw [← HZ.out, ← HY.out]; omega))
              clear hn hgood HY
              go_wp2_with fail
              refine wp_region_grown (by kernel_rfl) (by kernel_rfl) ?_
              repeat (go_big_quiet_step (with_reducible exact Calls.grown_of (cC _)))
              refine wpQuiet_nil ?_
              rintro _ ⟨s, rfl⟩
              go_wp2_with fail
              go_ret
              exact ⟨ret_bool (by rw [HRC.out, HT1.out, HF.out]; rfl), fW.trans s.fr⟩
            · have HT : Hid (rowAt chB Ch.o m.cs (k + 1) = true) := rowAt_up hk2 (by rw [← HZ.out]; exact hgood) (by have := HY.out; rw [← HZ.out, ← HY.out]; omega)
              have hle' : y < c.o := by omega
              clear hn hgood HY
              go_wp2_with fail
              refine wp_region_grown (by kernel_rfl) (by kernel_rfl) ?_
              repeat (go_big_quiet_step (with_reducible exact Calls.grown_of (cC _)))
              refine wpQuiet_nil ?_
              rintro _ ⟨s, rfl⟩
              go_wp2_with fail
              go_roundw
              case rel => exact ⟨k + 2, by omega, by go_num, rowAt_next HA.out HT.out, hb0.keep s.fr (by simp), hR.fr s.fr, fW.trans s.fr⟩
              case measure => simp [intOf]; omega
        · have HT2 : Hid (rowB chB Ch.o m.cs = true) := rowB_yes (fun j hj => HA.out j (by omega))
          have ca := hb0.c0
          have cb := hb0.c2
          have cd := hb0.c3
          simp only at ca cb cd
          clear hn
          go_wp2_with fail
          clear ca cb cd HA hlt hk
          go_loopw [5] (fun i wr => ∃ k : Nat, k ≤ nl ∧ i = .int .i64 k ∧ Hid (∀ j, j < k → rowAt ctB Ct.o m.gs j = true) ∧ ScB wr b0 ⟨g, lo, ll, lc, co, cl, cc, no, nl, nc, oo, ol, oc⟩ ∧ ScR B wr ⟨g, lo, ll, lc, co, cl, cc, no, nl, nc, oo, ol, oc⟩ m ∧ Fr w wr) (fun i _ => nl - (intOf i).toNat)
          case atStart => exact ⟨0, Nat.zero_le _, rfl, fun j hj => by omega, hb0, hR, fW⟩
          case round =>
            clear hb0 hR fW
            obtain ⟨k, hk, rfl, HA, hb0, hR, fW⟩ := hrel
            have hn := hR.nl
            have hsl := hR.sn
            simp only at hn
            have hll : nl ≤ 1048576 := by omega
            by_cases hlt : k < nl
            · have hk2 : k < m.gs.length := by omega
              obtain ⟨b, off, rfl, d0, d1⟩ := ct_at hR.cts k hk2
              obtain ⟨c, hc⟩ : ∃ c, c = m.gs[k] := ⟨_, rfl⟩
              rw [← hc] at d0 d1
              have HZ : Hid (c = m.gs[k]) := hc
              have cO := fun w => l4Obj_any c.o w
              have cN := fun w => l1In_any c.n 1 1000000 w
              clear hc
              have cc0 := hb0.c0
              have cc1 := hb0.c3
              simp only at cc0 cc1
              have q0 : ∀ s : Later wr, s.u.cell? ⟨b0, 0, none⟩ = some (.int .i64 g) := fun s => s.fr.cell cc0
              have q1 : ∀ s : Later wr, s.u.cell? ⟨b0, 3, none⟩ = some (.slice (some ⟨b, off, none⟩) nl nc) := fun s => s.fr.cell cc1
              have := Later.some wr
              cases hg1 : inB 0 15 c.o
              · have HF : Hid (rowB ctB Ct.o m.gs = false) := rowB_no hk2 (rowAt_bad hk2 (by rw [← HZ.out, ctB, hg1]; rfl))
                first | simp only [hg2] at cN | simp only [hg1] at cO
                have p0 : ∀ s : Later wr, s.u.cell? ⟨b, off + k * 2, none⟩ = some (.int .i64 c.o) := fun s => s.fr.cell d0
                have p1 : ∀ s : Later wr, s.u.cell? ⟨b, off + k * 2 + 1, none⟩ = some (.int .i64 c.n) := fun s => s.fr.cell d1
                clear hn hg1
                go_wp2_with fail
                refine wp_region_grown (by kernel_rfl) (by kernel_rfl) ?_
                repeat (go_big_quiet_step (first | with_reducible exact Calls.grown_same (cO _) | with_reducible exact Calls.grown_same (cN _)))
                refine wpQuiet_nil ?_
                rintro _ ⟨s, rfl⟩
                go_wp2_with fail
                go_ret
                exact ⟨ret_bool (by rw [HRC.out, HT2.out, HT1.out, HF.out]; rfl), fW.trans s.fr⟩
              simp only [hg1] at cO
              cases hg2 : inB 1 1000000 c.n
              · have HF : Hid (rowB ctB Ct.o m.gs = false) := rowB_no hk2 (rowAt_bad hk2 (by rw [← HZ.out, ctB, hg1, hg2]; rfl))
                first | simp only [hg2] at cN | simp only [hg1] at cO
                have p0 : ∀ s : Later wr, s.u.cell? ⟨b, off + k * 2, none⟩ = some (.int .i64 c.o) := fun s => s.fr.cell d0
                have p1 : ∀ s : Later wr, s.u.cell? ⟨b, off + k * 2 + 1, none⟩ = some (.int .i64 c.n) := fun s => s.fr.cell d1
                clear hn hg1
                go_wp2_with fail
                refine wp_region_grown (by kernel_rfl) (by kernel_rfl) ?_
                repeat (go_big_quiet_step (first | with_reducible exact Calls.grown_same (cO _) | with_reducible exact Calls.grown_same (cN _)))
                refine wpQuiet_nil ?_
                rintro _ ⟨s, rfl⟩
                go_wp2_with fail
                go_ret
                exact ⟨ret_bool (by rw [HRC.out, HT2.out, HT1.out, HF.out]; rfl), fW.trans s.fr⟩
              simp only [hg2] at cN
              cases k with
              | zero =>
                have HT : Hid (rowAt ctB Ct.o m.gs 0 = true) := rowAt_zero hk2 (by rw [← HZ.out, ctB, hg1, hg2]; rfl)
                simp only [Nat.zero_mul, Nat.add_zero] at d0 d1
                have p0 : ∀ s : Later wr, s.u.cell? ⟨b, off, none⟩ = some (.int .i64 c.o) := fun s => s.fr.cell d0
                have p1 : ∀ s : Later wr, s.u.cell? ⟨b, off + 1, none⟩ = some (.int .i64 c.n) := fun s => s.fr.cell d1
                clear hn hg1
                go_wp2_with fail
                have hd : decide ((0 : Int) < 0) = false := by decide
                refine wp_region_grown (by kernel_rfl) (by kernel_rfl) ?_
                repeat (go_big_quiet_step (first | with_reducible exact Calls.grown_same (cO _) | with_reducible exact Calls.grown_same (cN _)))
                refine wpQuiet_nil ?_
                rintro _ ⟨s, rfl⟩
                go_wp2_with fail
                go_roundw
                case rel => exact ⟨1, by omega, by go_num, rowAt_next HA.out HT.out, hb0.keep s.fr (by simp), hR.fr s.fr, fW.trans s.fr⟩
                case measure => simp [intOf]; omega
              | succ k =>
                obtain ⟨b', off', e', t0, -⟩ := ct_at hR.cts k (by omega)
                simp only [Option.some.injEq, Addr.mk.injEq, and_true] at e'
                obtain ⟨rfl, rfl⟩ := e'
                obtain ⟨y, hy⟩ : ∃ y, y = (m.gs[k]'(by omega)).o := ⟨_, rfl⟩
                rw [← hy] at t0
                have HY : Hid (y = (m.gs[k]'(by omega)).o) := hy
                clear hy
                have hwk : IntKind.i64.wrap (((k + 1 : Nat) : Int) - 1) = (k : Int) := by rw [IntKind.wrap_i64]; omega
                have t1 : ∀ s : Later wr, s.u.cell? ⟨b, off + k * 2, none⟩ = some (.int .i64 y) := fun s => s.fr.cell t0
                have p0 : ∀ s : Later wr, s.u.cell? ⟨b, off + (k + 1) * 2, none⟩ = some (.int .i64 c.o) := fun s => s.fr.cell d0
                have p1 : ∀ s : Later wr, s.u.cell? ⟨b, off + (k + 1) * 2 + 1, none⟩ = some (.int .i64 c.n) := fun s => s.fr.cell d1
                by_cases hle : c.o ≤ y
                · have HF : Hid (rowB ctB Ct.o m.gs = false) := rowB_no hk2 (rowAt_down hk2 (by have := HY.out; rw [← HZ.out, ← HY.out]; omega))
                  clear hn hg1 HY
                  go_wp2_with fail
                  refine wp_region_grown (by kernel_rfl) (by kernel_rfl) ?_
                  repeat (go_big_quiet_step (first | with_reducible exact Calls.grown_same (cO _) | with_reducible exact Calls.grown_same (cN _)))
                  refine wpQuiet_nil ?_
                  rintro _ ⟨s, rfl⟩
                  go_wp2_with fail
                  go_ret
                  exact ⟨ret_bool (by rw [HRC.out, HT2.out, HT1.out, HF.out]; rfl), fW.trans s.fr⟩
                · have HT : Hid (rowAt ctB Ct.o m.gs (k + 1) = true) := rowAt_up hk2 (by rw [← HZ.out, ctB, hg1, hg2]; rfl) (by have := HY.out; rw [← HZ.out, ← HY.out]; omega)
                  have hle' : y < c.o := by omega
                  clear hn hg1 HY
                  go_wp2_with fail
                  refine wp_region_grown (by kernel_rfl) (by kernel_rfl) ?_
                  repeat (go_big_quiet_step (first | with_reducible exact Calls.grown_same (cO _) | with_reducible exact Calls.grown_same (cN _)))
                  refine wpQuiet_nil ?_
                  rintro _ ⟨s, rfl⟩
                  go_wp2_with fail
                  go_roundw
                  case rel => exact ⟨k + 2, by omega, by go_num, rowAt_next HA.out HT.out, hb0.keep s.fr (by simp), hR.fr s.fr, fW.trans s.fr⟩
                  case measure => simp [intOf]; omega
            · have HT3 : Hid (rowB ctB Ct.o m.gs = true) := rowB_yes (fun j hj => HA.out j (by omega))
              have ca := hb0.c0
              have cb := hb0.c3
              have cd := hb0.c4
              simp only at ca cb cd
              clear hn
              go_wp2_with fail
              clear ca cb cd HA hlt hk
              go_loopw [6] (fun i wr => ∃ k : Nat, k ≤ ol ∧ i = .int .i64 k ∧ Hid (∀ j, j < k → rowAt (inB 0 15) (fun x => x) m.os j = true) ∧ ScB wr b0 ⟨g, lo, ll, lc, co, cl, cc, no, nl, nc, oo, ol, oc⟩ ∧ ScR B wr ⟨g, lo, ll, lc, co, cl, cc, no, nl, nc, oo, ol, oc⟩ m ∧ Fr w wr) (fun i _ => ol - (intOf i).toNat)
              case atStart => exact ⟨0, Nat.zero_le _, rfl, fun j hj => by omega, hb0, hR, fW⟩
              case round =>
                clear hb0 hR fW
                obtain ⟨k, hk, rfl, HA, hb0, hR, fW⟩ := hrel
                have hn := hR.ol
                have hsl := hR.so
                simp only at hn
                have hll : ol ≤ 1048576 := by omega
                by_cases hlt : k < ol
                · have hk2 : k < m.os.length := by omega
                  obtain ⟨b, off, rfl, hc⟩ := hR.ons.at_ k hk2
                  have d0 := hc k hk2
                  rw [getD_at hk2] at d0
                  have HO : Hid (m.os[k] = m.os[k]) := rfl
                  obtain ⟨z, hz⟩ : ∃ z, z = m.os[k] := ⟨_, rfl⟩
                  rw [← hz] at d0
                  have HZ : Hid (z = m.os[k]) := hz
                  have cO := fun w => l4Obj_any z w
                  clear hz HO
                  have cc0 := hb0.c0
                  have cc1 := hb0.c4
                  simp only at cc0 cc1
                  have q0 : ∀ s : Later wr, s.u.cell? ⟨b0, 0, none⟩ = some (.int .i64 g) := fun s => s.fr.cell cc0
                  have q1 : ∀ s : Later wr, s.u.cell? ⟨b0, 4, none⟩ = some (.slice (some ⟨b, off, none⟩) ol oc) := fun s => s.fr.cell cc1
                  have := Later.some wr
                  cases hgood : inB 0 15 z
                  · have HF : Hid (rowB (inB 0 15) (fun x => x) m.os = false) := rowB_no hk2 (rowAt_bad hk2 (by rw [← HZ.out]; exact hgood))
                    simp only [hgood] at cO
                    have p0 : ∀ s : Later wr, s.u.cell? ⟨b, off + k, none⟩ = some (.int .i64 z) := fun s => s.fr.cell d0
                    clear hn hgood hc
                    go_wp2_with fail
                    refine wp_region_grown (by kernel_rfl) (by kernel_rfl) ?_
                    repeat (go_big_quiet_step (with_reducible exact Calls.grown_same (cO _)))
                    refine wpQuiet_nil ?_
                    rintro _ ⟨s, rfl⟩
                    go_wp2_with fail
                    go_ret
                    exact ⟨ret_bool (by rw [HRC.out, HT3.out, HT2.out, HT1.out, HF.out]; rfl), fW.trans s.fr⟩
                  simp only [hgood] at cO
                  cases k with
                  | zero =>
                    have HT : Hid (rowAt (inB 0 15) (fun x => x) m.os 0 = true) := rowAt_zero hk2 (by rw [← HZ.out]; exact hgood)
                    simp only [Nat.add_zero] at d0
                    have p0 : ∀ s : Later wr, s.u.cell? ⟨b, off, none⟩ = some (.int .i64 z) := fun s => s.fr.cell d0
                    clear hn hgood hc
                    go_wp2_with fail
                    have hd : decide ((0 : Int) < 0) = false := by decide
                    refine wp_region_grown (by kernel_rfl) (by kernel_rfl) ?_
                    repeat (go_big_quiet_step (with_reducible exact Calls.grown_same (cO _)))
                    refine wpQuiet_nil ?_
                    rintro _ ⟨s, rfl⟩
                    go_wp2_with fail
                    go_roundw
                    case rel => exact ⟨1, by omega, by go_num, rowAt_next HA.out HT.out, hb0.keep s.fr (by simp), hR.fr s.fr, fW.trans s.fr⟩
                    case measure => simp [intOf]; omega
                  | succ k =>
                    have t0 := hc k (by omega)
                    obtain ⟨y, hy⟩ : ∃ y, y = m.os.getD k 0 := ⟨_, rfl⟩
                    rw [← hy] at t0
                    rw [getD_at (show k < m.os.length by omega)] at hy
                    have HY : Hid (y = m.os[k]) := hy
                    clear hy
                    have hwk : IntKind.i64.wrap (((k + 1 : Nat) : Int) - 1) = (k : Int) := by rw [IntKind.wrap_i64]; omega
                    have t1 : ∀ s : Later wr, s.u.cell? ⟨b, off + k, none⟩ = some (.int .i64 y) := fun s => s.fr.cell t0
                    have p0 : ∀ s : Later wr, s.u.cell? ⟨b, off + (k + 1), none⟩ = some (.int .i64 z) := fun s => s.fr.cell d0
                    by_cases hle : z ≤ y
                    · have HF : Hid (rowB (inB 0 15) (fun x => x) m.os = false) := rowB_no hk2 (rowAt_down hk2 (by have := HZ.out; have := HY.out; omega))
                      clear hn hgood hc HY
                      go_wp2_with fail
                      refine wp_region_grown (by kernel_rfl) (by kernel_rfl) ?_
                      repeat (go_big_quiet_step (with_reducible exact Calls.grown_same (cO _)))
                      refine wpQuiet_nil ?_
                      rintro _ ⟨s, rfl⟩
                      go_wp2_with fail
                      go_ret
                      exact ⟨ret_bool (by rw [HRC.out, HT3.out, HT2.out, HT1.out, HF.out]; rfl), fW.trans s.fr⟩
                    · have HT : Hid (rowAt (inB 0 15) (fun x => x) m.os (k + 1) = true) := rowAt_up hk2 (by rw [← HZ.out]; exact hgood) (by have := HZ.out; have := HY.out; omega)
                      have hle' : y < z := by omega
                      clear hn hgood hc HY
                      go_wp2_with fail
                      refine wp_region_grown (by kernel_rfl) (by kernel_rfl) ?_
                      repeat (go_big_quiet_step (with_reducible exact Calls.grown_same (cO _)))
                      refine wpQuiet_nil ?_
                      rintro _ ⟨s, rfl⟩
                      go_wp2_with fail
                      go_roundw
                      case rel => exact ⟨k + 2, by omega, by go_num, rowAt_next HA.out HT.out, hb0.keep s.fr (by simp), hR.fr s.fr, fW.trans s.fr⟩
                      case measure => simp [intOf]; omega
                · have HT4 : Hid (rowB (inB 0 15) (fun x => x) m.os = true) := rowB_yes (fun j hj => HA.out j (by omega))
                  have ca := hb0.c4
                  simp only at ca
                  go_wp2_with fail
                  go_ret
                  exact ⟨ret_bool (by rw [HRC.out, HT4.out, HT3.out, HT2.out, HT1.out]; rfl), fW⟩
end Go.Proofs.YtcofhmikdkkigaaGreatDoor
