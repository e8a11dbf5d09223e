/-
  Pack BZ: RegInv, TwoR.
-/
import Derived.Test.YtplnijpolkflcaaGreatDoorPqBO
import Derived.Test.YtplnijpolkflcaaGreatDoorPqBP
namespace Go.Proofs.YtplnijpolkflcaaGreatDoor
open Go.RowKit

def cameL (L : Nat → Bool) (i : Nat) : Nat → Bool := fun k => if k = i then true else L k

def lexOkB (ops : Array Oper) : Bool := (List.range ops.size).all fun i => ((ops[i]?).map fun o => o.after.all fun e => !Region.binds .any e || decide (e.on < i)).getD true
theorem lexB_of {ops : Array Oper} (h : lexOkB ops = true) : ∀ (i : Nat) (o : Oper), ops[i]? = some o → ∀ e ∈ o.after, Region.binds .any e = true → e.on < i := by
  intro i o ho e he hb
  have hi := (Array.getElem?_eq_some_iff.1 ho).1
  have h1 := List.all_eq_true.1 h i (List.mem_range.2 hi)
  simp only [ho, Option.map_some, Option.getD_some, Array.all_eq_true_iff_forall_mem] at h1
  have h2 := h1 e he
  rw [hb] at h2
  simpa using h2

theorem wpAny_inv {P : Program} {ops : Array Oper} {Q : Exit → Act → World → Prop} (Inv : (Nat → Bool) → Act → World → Prop)
    (hlex : ∀ (i : Nat) (o : Oper), ops[i]? = some o → ∀ e ∈ o.after, Region.binds .any e = true → e.on < i)
    (step : ∀ (i : Nat) (o : Oper) L a u, ops[i]? = some o → Inv L a u → L i = false → (∀ e ∈ o.after, Region.binds .any e = true → L e.on = true) →
      Region.wanted o (yielded ops a.tmps) = true ∧ o.wp P a u (fun a' u' => Inv (cameL L i) a' u') Q)
    (done : ∀ L a u, Inv L a u → (∀ i, i < ops.size → L i = true) → Q .normal a u) :
    ∀ (fuel : Nat) (l : Array Bool) (a : Act) (u : World), l.size = ops.size → left ops.size l ≤ fuel → Inv (fun k => l.getD k false) a u → wpAny P .any ops Q fuel l a u := by
  have hnone : ∀ (l : Array Bool), l.size = ops.size → Region.ready .any ops l = [] → ∀ i, i < ops.size → l.getD i false = true := by
    intro l hl he
    have hmin : ∀ m, m ≤ ops.size → (∀ k, k < m → l.getD k false = true) := by
      intro m
      induction m with
      | zero => intro _ k hk; omega
      | succ m ih =>
        intro hm k hk
        by_cases hkm : k < m
        · exact ih (by omega) k hkm
        · have hk2 : k = m := by omega
          subst hk2
          cases hv : l.getD k false
          · exfalso
            have ho : ops[k]? = some ops[k] := Array.getElem?_eq_getElem (by omega)
            have : k ∈ Region.ready .any ops l := mem_ready.2 ⟨by
              rw [Array.getD_eq_getD_getElem?] at hv ⊢
              rw [Array.getElem?_eq_getElem (by omega)] at hv ⊢
              exact hv, _, ho, fun e he2 hb2 => ih (by omega) _ (hlex k _ ho e he2 hb2)⟩
            rw [he] at this
            cases this
          · rfl
    exact fun i hi => hmin ops.size (Nat.le_refl _) i hi
  intro fuel
  induction fuel with
  | zero =>
    intro l a u hl hf hI
    have hall : ∀ i, i < ops.size → l.getD i false = true := fun i hi => by
      cases hv : l.getD i false
      · have := left_pos (l := l) (n := ops.size) hi hv
        omega
      · rfl
    refine ⟨?_, done _ a u hI hall⟩
    cases hr : Region.ready .any ops l with
    | nil => rfl
    | cons i r =>
      exfalso
      have hm : i ∈ Region.ready .any ops l := by rw [hr]; exact List.mem_cons_self
      obtain ⟨q1, o, q2, -⟩ := mem_ready.1 hm
      have hi : i < ops.size := (Array.getElem?_eq_some_iff.1 q2).1
      have := hall i hi
      rw [Array.getD_eq_getD_getElem?] at this q1
      rw [Array.getElem?_eq_getElem (by omega)] at this q1
      simp at this q1
      rw [this] at q1
      cases q1
  | succ fuel ih =>
    intro l a u hl hf hI
    refine ⟨fun he => done _ a u hI (hnone l hl he), fun i hi => ?_⟩
    obtain ⟨q1, o, q2, q3⟩ := mem_ready.1 hi
    have hi2 : i < ops.size := (Array.getElem?_eq_some_iff.1 q2).1
    have hfi : l.getD i false = false := by
      rw [Array.getD_eq_getD_getElem?] at q1 ⊢
      rw [Array.getElem?_eq_getElem (by omega)] at q1 ⊢
      exact q1
    have hlt := left_put hl hi2 hfi
    obtain ⟨w1, w2⟩ := step i o _ a u q2 hI hfi q3
    unfold wpOp
    simp only [q2]
    rw [if_pos w1]
    refine .inl (Oper.wp_mono (fun a' u' hq => ih _ a' u' (by simpa using hl) (by omega) ?_) w2)
    have e : (fun k => (l.setIfInBounds i true).getD k false) = cameL (fun k => l.getD k false) i := funext fun k => getD_put (by omega)
    rw [e]
    exact hq
theorem wp_region_inv {P : Program} {ops : Array Oper} {Q : Exit → Act → World → Prop} {id : Nat} {a : Act} {w : World} (Inv : (Nat → Bool) → Act → World → Prop)
    (hm : P.follows .mixedOrders = true) (hlex : lexOkB ops = true) (h0 : Inv (fun _ => false) a w.drew)
    (step : ∀ (i : Nat) (o : Oper) L a u, ops[i]? = some o → Inv L a u → L i = false → (∀ e ∈ o.after, Region.binds .any e = true → L e.on = true) →
      Region.wanted o (yielded ops a.tmps) = true ∧ o.wp P a u (fun a' u' => Inv (cameL L i) a' u') Q)
    (done : ∀ L a u, Inv L a u → (∀ i, i < ops.size → L i = true) → Q .normal a u) : (Code.region id ops true).wp P Q a w := by
  refine wp_region_any hm (wpAny_inv Inv (lexB_of hlex) step done _ _ _ _ (by simp) ?_ ?_)
  · unfold left
    exact Nat.le_trans (List.length_filter_le _ _) (by simp)
  · have e : (fun k => (Array.replicate ops.size false).getD k false) = fun _ => false := funext fun k => by
      rw [Array.getD_eq_getD_getElem?, Array.getElem?_replicate]
      split <;> rfl
    rw [e]
    exact h0
end Go.Proofs.YtplnijpolkflcaaGreatDoor
namespace Go.Proofs.YtplnijpolkflcaaGreatDoor
open Go.RowKit

structure TwoR (σ : Nat → Nat) (W : World) (a0 e0 : Value) (m D : Scn) (C : Int) (K : Nat → Nat → World → Sv → Prop) (L : Nat → Bool) (X : Nat → Value) (t s sk : Sv) (lo hi k : Nat) (u : World) : Prop where
  fr : Fr W u
  f0 : L 0 = true → X (σ 0) = a0
  f1 : L 1 = true → X (σ 1) = .agg #[.int .i64 t.g, .slice t.lo t.ll t.lc, .slice t.co t.cl t.cc, .slice t.no t.nl t.nc, .slice t.oo t.ol t.oc] ∧ (L 9 = false → ScR (fun b => b < u.heap.size) u t m)
  f2 : L 2 = true → X (σ 2) = e0
  f3 : L 3 = true → X (σ 3) = e0
  f4 : L 4 = true → X (σ 4) = .tuple #[.agg #[.int .i64 s.g, .slice s.lo s.ll s.lc, .slice s.co s.cl s.cc, .slice s.no s.nl s.nc, .slice s.oo s.ol s.oc], .int .i64 C] ∧ ScR (fun b => lo ≤ b ∧ b < hi) u s D ∧ W.heap.size ≤ lo ∧ hi ≤ u.heap.size ∧ K lo hi u s
  f5 : L 5 = true → L 4 = true ∧ X (σ 5) = .tuple #[.agg #[.int .i64 s.g, .slice s.lo s.ll s.lc, .slice s.co s.cl s.cc, .slice s.no s.nl s.nc, .slice s.oo s.ol s.oc], .int .i64 C]
  f6 : L 6 = true → L 4 = true ∧ X (σ 6) = .agg #[.int .i64 s.g, .slice s.lo s.ll s.lc, .slice s.co s.cl s.cc, .slice s.no s.nl s.nc, .slice s.oo s.ol s.oc]
  f7 : L 7 = true → L 4 = true ∧ X (σ 7) = .int .i64 C
  f8 : L 8 = true → X (σ 8) = .pointer (some ⟨k, 0, none⟩) ∧ W.heap.size ≤ k ∧ ScK u k sk
  f9 : L 9 = true → (L 4 = true ∧ L 8 = true) ∧ sk = s
  f10 : L 10 = true → X (σ 10) = .int .i64 C
  fc : L 4 = true → L 8 = true → k < lo ∨ hi ≤ k
theorem TwoR.start {σ : Nat → Nat} {a0 e0 : Value} {m D : Scn} {C : Int} {K : Nat → Nat → World → Sv → Prop} (w : World) (a b c : Sv) (l h' k' : Nat) (X : Nat → Value) : TwoR σ w a0 e0 m D C K (fun _ => false) X a b c l h' k' w :=
  ⟨Fr.refl w, (fun q => by cases q), (fun q => by cases q), (fun q => by cases q), (fun q => by cases q), (fun q => by cases q), (fun q => by cases q), (fun q => by cases q), (fun q => by cases q), (fun q => by cases q), (fun q => by cases q), (fun q => by cases q), (fun q => by cases q)⟩
theorem TwoR.grow {σ : Nat → Nat} {W : World} {a0 e0 : Value} {m D : Scn} {C : Int} {K : Nat → Nat → World → Sv → Prop} {L : Nat → Bool} {X : Nat → Value} {t s sk : Sv} {lo hi k : Nat} {u : World} {u' : World} (h : TwoR σ W a0 e0 m D C K L X t s sk lo hi k u) (f : Fr u u') (hK : ∀ l h' v, K l h' u v → K l h' u' v) : TwoR σ W a0 e0 m D C K L X t s sk lo hi k u' where
  fr := h.fr.trans f
  f0 := h.f0
  f1 q := ⟨(h.f1 q).1, fun p => (((h.f1 q).2 p).fr f).mono (fun _ r => Nat.lt_of_lt_of_le r f.size)⟩
  f2 := h.f2
  f3 := h.f3
  f4 q := ⟨(h.f4 q).1, (h.f4 q).2.1.fr f, (h.f4 q).2.2.1, Nat.le_trans (h.f4 q).2.2.2.1 f.size, hK _ _ _ (h.f4 q).2.2.2.2⟩
  f5 := h.f5
  f6 := h.f6
  f7 := h.f7
  f8 q := ⟨(h.f8 q).1, (h.f8 q).2.1, (h.f8 q).2.2.fr f⟩
  f9 := h.f9
  f10 := h.f10
  fc := h.fc
theorem orL {L : Nat → Bool} {i j : Nat} (h : L j = true) : cameL L i j = true := by
  unfold cameL
  by_cases e : j = i
  · rw [if_pos e]
  · rw [if_neg e]; exact h
theorem ofL {L : Nat → Bool} {i j : Nat} (hn : j ≠ i) (h : cameL L i j = true) : L j = true := by unfold cameL at h; rwa [if_neg hn] at h
theorem ofF {L : Nat → Bool} {i j : Nat} (hn : j ≠ i) (h : cameL L i j = false) : L j = false := by unfold cameL at h; rwa [if_neg hn] at h
theorem TwoR.s0 {σ : Nat → Nat} {W : World} {a0 e0 : Value} {m D : Scn} {C : Int} {K : Nat → Nat → World → Sv → Prop} {L : Nat → Bool} {X : Nat → Value} {t s sk : Sv} {lo hi k : Nat} {u : World} (h : TwoR σ W a0 e0 m D C K L X t s sk lo hi k u) (hσ : ∀ a b, a < 11 → b < 11 → σ a = σ b → a = b) : TwoR σ W a0 e0 m D C K (cameL L 0) (upd X (σ 0) (a0)) t s sk lo hi k u := by
  refine ⟨h.fr, ?_, fun q => ⟨(upd_ne X _ (fun e => by have := hσ 1 0 (by decide) (by decide) e; omega)).trans (h.f1 (ofL (by decide) q)).1, fun p => (h.f1 (ofL (by decide) q)).2 (ofF (by decide) p)⟩, fun q => (upd_ne X _ (fun e => by have := hσ 2 0 (by decide) (by decide) e; omega)).trans (h.f2 (ofL (by decide) q)), fun q => (upd_ne X _ (fun e => by have := hσ 3 0 (by decide) (by decide) e; omega)).trans (h.f3 (ofL (by decide) q)), fun q => ⟨(upd_ne X _ (fun e => by have := hσ 4 0 (by decide) (by decide) e; omega)).trans (h.f4 (ofL (by decide) q)).1, (h.f4 (ofL (by decide) q)).2⟩, fun q => ⟨orL (h.f5 (ofL (by decide) q)).1, (upd_ne X _ (fun e => by have := hσ 5 0 (by decide) (by decide) e; omega)).trans (h.f5 (ofL (by decide) q)).2⟩, fun q => ⟨orL (h.f6 (ofL (by decide) q)).1, (upd_ne X _ (fun e => by have := hσ 6 0 (by decide) (by decide) e; omega)).trans (h.f6 (ofL (by decide) q)).2⟩, fun q => ⟨orL (h.f7 (ofL (by decide) q)).1, (upd_ne X _ (fun e => by have := hσ 7 0 (by decide) (by decide) e; omega)).trans (h.f7 (ofL (by decide) q)).2⟩, fun q => ⟨(upd_ne X _ (fun e => by have := hσ 8 0 (by decide) (by decide) e; omega)).trans (h.f8 (ofL (by decide) q)).1, (h.f8 (ofL (by decide) q)).2⟩, fun q => ⟨⟨orL (h.f9 (ofL (by decide) q)).1.1, orL (h.f9 (ofL (by decide) q)).1.2⟩, (h.f9 (ofL (by decide) q)).2⟩, fun q => (upd_ne X _ (fun e => by have := hσ 10 0 (by decide) (by decide) e; omega)).trans (h.f10 (ofL (by decide) q)), fun p q => h.fc (ofL (by decide) p) (ofL (by decide) q)⟩
  exact fun _ => upd_same X _ _
theorem TwoR.s2 {σ : Nat → Nat} {W : World} {a0 e0 : Value} {m D : Scn} {C : Int} {K : Nat → Nat → World → Sv → Prop} {L : Nat → Bool} {X : Nat → Value} {t s sk : Sv} {lo hi k : Nat} {u : World} (h : TwoR σ W a0 e0 m D C K L X t s sk lo hi k u) (hσ : ∀ a b, a < 11 → b < 11 → σ a = σ b → a = b) : TwoR σ W a0 e0 m D C K (cameL L 2) (upd X (σ 2) (e0)) t s sk lo hi k u := by
  refine ⟨h.fr, fun q => (upd_ne X _ (fun e => by have := hσ 0 2 (by decide) (by decide) e; omega)).trans (h.f0 (ofL (by decide) q)), fun q => ⟨(upd_ne X _ (fun e => by have := hσ 1 2 (by decide) (by decide) e; omega)).trans (h.f1 (ofL (by decide) q)).1, fun p => (h.f1 (ofL (by decide) q)).2 (ofF (by decide) p)⟩, ?_, fun q => (upd_ne X _ (fun e => by have := hσ 3 2 (by decide) (by decide) e; omega)).trans (h.f3 (ofL (by decide) q)), fun q => ⟨(upd_ne X _ (fun e => by have := hσ 4 2 (by decide) (by decide) e; omega)).trans (h.f4 (ofL (by decide) q)).1, (h.f4 (ofL (by decide) q)).2⟩, fun q => ⟨orL (h.f5 (ofL (by decide) q)).1, (upd_ne X _ (fun e => by have := hσ 5 2 (by decide) (by decide) e; omega)).trans (h.f5 (ofL (by decide) q)).2⟩, fun q => ⟨orL (h.f6 (ofL (by decide) q)).1, (upd_ne X _ (fun e => by have := hσ 6 2 (by decide) (by decide) e; omega)).trans (h.f6 (ofL (by decide) q)).2⟩, fun q => ⟨orL (h.f7 (ofL (by decide) q)).1, (upd_ne X _ (fun e => by have := hσ 7 2 (by decide) (by decide) e; omega)).trans (h.f7 (ofL (by decide) q)).2⟩, fun q => ⟨(upd_ne X _ (fun e => by have := hσ 8 2 (by decide) (by decide) e; omega)).trans (h.f8 (ofL (by decide) q)).1, (h.f8 (ofL (by decide) q)).2⟩, fun q => ⟨⟨orL (h.f9 (ofL (by decide) q)).1.1, orL (h.f9 (ofL (by decide) q)).1.2⟩, (h.f9 (ofL (by decide) q)).2⟩, fun q => (upd_ne X _ (fun e => by have := hσ 10 2 (by decide) (by decide) e; omega)).trans (h.f10 (ofL (by decide) q)), fun p q => h.fc (ofL (by decide) p) (ofL (by decide) q)⟩
  exact fun _ => upd_same X _ _
theorem TwoR.s3 {σ : Nat → Nat} {W : World} {a0 e0 : Value} {m D : Scn} {C : Int} {K : Nat → Nat → World → Sv → Prop} {L : Nat → Bool} {X : Nat → Value} {t s sk : Sv} {lo hi k : Nat} {u : World} (h : TwoR σ W a0 e0 m D C K L X t s sk lo hi k u) (hσ : ∀ a b, a < 11 → b < 11 → σ a = σ b → a = b) : TwoR σ W a0 e0 m D C K (cameL L 3) (upd X (σ 3) (e0)) t s sk lo hi k u := by
  refine ⟨h.fr, fun q => (upd_ne X _ (fun e => by have := hσ 0 3 (by decide) (by decide) e; omega)).trans (h.f0 (ofL (by decide) q)), fun q => ⟨(upd_ne X _ (fun e => by have := hσ 1 3 (by decide) (by decide) e; omega)).trans (h.f1 (ofL (by decide) q)).1, fun p => (h.f1 (ofL (by decide) q)).2 (ofF (by decide) p)⟩, fun q => (upd_ne X _ (fun e => by have := hσ 2 3 (by decide) (by decide) e; omega)).trans (h.f2 (ofL (by decide) q)), ?_, fun q => ⟨(upd_ne X _ (fun e => by have := hσ 4 3 (by decide) (by decide) e; omega)).trans (h.f4 (ofL (by decide) q)).1, (h.f4 (ofL (by decide) q)).2⟩, fun q => ⟨orL (h.f5 (ofL (by decide) q)).1, (upd_ne X _ (fun e => by have := hσ 5 3 (by decide) (by decide) e; omega)).trans (h.f5 (ofL (by decide) q)).2⟩, fun q => ⟨orL (h.f6 (ofL (by decide) q)).1, (upd_ne X _ (fun e => by have := hσ 6 3 (by decide) (by decide) e; omega)).trans (h.f6 (ofL (by decide) q)).2⟩, fun q => ⟨orL (h.f7 (ofL (by decide) q)).1, (upd_ne X _ (fun e => by have := hσ 7 3 (by decide) (by decide) e; omega)).trans (h.f7 (ofL (by decide) q)).2⟩, fun q => ⟨(upd_ne X _ (fun e => by have := hσ 8 3 (by decide) (by decide) e; omega)).trans (h.f8 (ofL (by decide) q)).1, (h.f8 (ofL (by decide) q)).2⟩, fun q => ⟨⟨orL (h.f9 (ofL (by decide) q)).1.1, orL (h.f9 (ofL (by decide) q)).1.2⟩, (h.f9 (ofL (by decide) q)).2⟩, fun q => (upd_ne X _ (fun e => by have := hσ 10 3 (by decide) (by decide) e; omega)).trans (h.f10 (ofL (by decide) q)), fun p q => h.fc (ofL (by decide) p) (ofL (by decide) q)⟩
  exact fun _ => upd_same X _ _
theorem TwoR.s5 {σ : Nat → Nat} {W : World} {a0 e0 : Value} {m D : Scn} {C : Int} {K : Nat → Nat → World → Sv → Prop} {L : Nat → Bool} {X : Nat → Value} {t s sk : Sv} {lo hi k : Nat} {u : World} (h : TwoR σ W a0 e0 m D C K L X t s sk lo hi k u) (hσ : ∀ a b, a < 11 → b < 11 → σ a = σ b → a = b) (h4 : L 4 = true) : TwoR σ W a0 e0 m D C K (cameL L 5) (upd X (σ 5) (.tuple #[.agg #[.int .i64 s.g, .slice s.lo s.ll s.lc, .slice s.co s.cl s.cc, .slice s.no s.nl s.nc, .slice s.oo s.ol s.oc], .int .i64 C])) t s sk lo hi k u := by
  refine ⟨h.fr, fun q => (upd_ne X _ (fun e => by have := hσ 0 5 (by decide) (by decide) e; omega)).trans (h.f0 (ofL (by decide) q)), fun q => ⟨(upd_ne X _ (fun e => by have := hσ 1 5 (by decide) (by decide) e; omega)).trans (h.f1 (ofL (by decide) q)).1, fun p => (h.f1 (ofL (by decide) q)).2 (ofF (by decide) p)⟩, fun q => (upd_ne X _ (fun e => by have := hσ 2 5 (by decide) (by decide) e; omega)).trans (h.f2 (ofL (by decide) q)), fun q => (upd_ne X _ (fun e => by have := hσ 3 5 (by decide) (by decide) e; omega)).trans (h.f3 (ofL (by decide) q)), fun q => ⟨(upd_ne X _ (fun e => by have := hσ 4 5 (by decide) (by decide) e; omega)).trans (h.f4 (ofL (by decide) q)).1, (h.f4 (ofL (by decide) q)).2⟩, ?_, fun q => ⟨orL (h.f6 (ofL (by decide) q)).1, (upd_ne X _ (fun e => by have := hσ 6 5 (by decide) (by decide) e; omega)).trans (h.f6 (ofL (by decide) q)).2⟩, fun q => ⟨orL (h.f7 (ofL (by decide) q)).1, (upd_ne X _ (fun e => by have := hσ 7 5 (by decide) (by decide) e; omega)).trans (h.f7 (ofL (by decide) q)).2⟩, fun q => ⟨(upd_ne X _ (fun e => by have := hσ 8 5 (by decide) (by decide) e; omega)).trans (h.f8 (ofL (by decide) q)).1, (h.f8 (ofL (by decide) q)).2⟩, fun q => ⟨⟨orL (h.f9 (ofL (by decide) q)).1.1, orL (h.f9 (ofL (by decide) q)).1.2⟩, (h.f9 (ofL (by decide) q)).2⟩, fun q => (upd_ne X _ (fun e => by have := hσ 10 5 (by decide) (by decide) e; omega)).trans (h.f10 (ofL (by decide) q)), fun p q => h.fc (ofL (by decide) p) (ofL (by decide) q)⟩
  exact fun _ => ⟨orL h4, upd_same X _ _⟩
theorem TwoR.s6 {σ : Nat → Nat} {W : World} {a0 e0 : Value} {m D : Scn} {C : Int} {K : Nat → Nat → World → Sv → Prop} {L : Nat → Bool} {X : Nat → Value} {t s sk : Sv} {lo hi k : Nat} {u : World} (h : TwoR σ W a0 e0 m D C K L X t s sk lo hi k u) (hσ : ∀ a b, a < 11 → b < 11 → σ a = σ b → a = b) (h4 : L 4 = true) : TwoR σ W a0 e0 m D C K (cameL L 6) (upd X (σ 6) (.agg #[.int .i64 s.g, .slice s.lo s.ll s.lc, .slice s.co s.cl s.cc, .slice s.no s.nl s.nc, .slice s.oo s.ol s.oc])) t s sk lo hi k u := by
  refine ⟨h.fr, fun q => (upd_ne X _ (fun e => by have := hσ 0 6 (by decide) (by decide) e; omega)).trans (h.f0 (ofL (by decide) q)), fun q => ⟨(upd_ne X _ (fun e => by have := hσ 1 6 (by decide) (by decide) e; omega)).trans (h.f1 (ofL (by decide) q)).1, fun p => (h.f1 (ofL (by decide) q)).2 (ofF (by decide) p)⟩, fun q => (upd_ne X _ (fun e => by have := hσ 2 6 (by decide) (by decide) e; omega)).trans (h.f2 (ofL (by decide) q)), fun q => (upd_ne X _ (fun e => by have := hσ 3 6 (by decide) (by decide) e; omega)).trans (h.f3 (ofL (by decide) q)), fun q => ⟨(upd_ne X _ (fun e => by have := hσ 4 6 (by decide) (by decide) e; omega)).trans (h.f4 (ofL (by decide) q)).1, (h.f4 (ofL (by decide) q)).2⟩, fun q => ⟨orL (h.f5 (ofL (by decide) q)).1, (upd_ne X _ (fun e => by have := hσ 5 6 (by decide) (by decide) e; omega)).trans (h.f5 (ofL (by decide) q)).2⟩, ?_, fun q => ⟨orL (h.f7 (ofL (by decide) q)).1, (upd_ne X _ (fun e => by have := hσ 7 6 (by decide) (by decide) e; omega)).trans (h.f7 (ofL (by decide) q)).2⟩, fun q => ⟨(upd_ne X _ (fun e => by have := hσ 8 6 (by decide) (by decide) e; omega)).trans (h.f8 (ofL (by decide) q)).1, (h.f8 (ofL (by decide) q)).2⟩, fun q => ⟨⟨orL (h.f9 (ofL (by decide) q)).1.1, orL (h.f9 (ofL (by decide) q)).1.2⟩, (h.f9 (ofL (by decide) q)).2⟩, fun q => (upd_ne X _ (fun e => by have := hσ 10 6 (by decide) (by decide) e; omega)).trans (h.f10 (ofL (by decide) q)), fun p q => h.fc (ofL (by decide) p) (ofL (by decide) q)⟩
  exact fun _ => ⟨orL h4, upd_same X _ _⟩
theorem TwoR.s7 {σ : Nat → Nat} {W : World} {a0 e0 : Value} {m D : Scn} {C : Int} {K : Nat → Nat → World → Sv → Prop} {L : Nat → Bool} {X : Nat → Value} {t s sk : Sv} {lo hi k : Nat} {u : World} (h : TwoR σ W a0 e0 m D C K L X t s sk lo hi k u) (hσ : ∀ a b, a < 11 → b < 11 → σ a = σ b → a = b) (h4 : L 4 = true) : TwoR σ W a0 e0 m D C K (cameL L 7) (upd X (σ 7) (.int .i64 C)) t s sk lo hi k u := by
  refine ⟨h.fr, fun q => (upd_ne X _ (fun e => by have := hσ 0 7 (by decide) (by decide) e; omega)).trans (h.f0 (ofL (by decide) q)), fun q => ⟨(upd_ne X _ (fun e => by have := hσ 1 7 (by decide) (by decide) e; omega)).trans (h.f1 (ofL (by decide) q)).1, fun p => (h.f1 (ofL (by decide) q)).2 (ofF (by decide) p)⟩, fun q => (upd_ne X _ (fun e => by have := hσ 2 7 (by decide) (by decide) e; omega)).trans (h.f2 (ofL (by decide) q)), fun q => (upd_ne X _ (fun e => by have := hσ 3 7 (by decide) (by decide) e; omega)).trans (h.f3 (ofL (by decide) q)), fun q => ⟨(upd_ne X _ (fun e => by have := hσ 4 7 (by decide) (by decide) e; omega)).trans (h.f4 (ofL (by decide) q)).1, (h.f4 (ofL (by decide) q)).2⟩, fun q => ⟨orL (h.f5 (ofL (by decide) q)).1, (upd_ne X _ (fun e => by have := hσ 5 7 (by decide) (by decide) e; omega)).trans (h.f5 (ofL (by decide) q)).2⟩, fun q => ⟨orL (h.f6 (ofL (by decide) q)).1, (upd_ne X _ (fun e => by have := hσ 6 7 (by decide) (by decide) e; omega)).trans (h.f6 (ofL (by decide) q)).2⟩, ?_, fun q => ⟨(upd_ne X _ (fun e => by have := hσ 8 7 (by decide) (by decide) e; omega)).trans (h.f8 (ofL (by decide) q)).1, (h.f8 (ofL (by decide) q)).2⟩, fun q => ⟨⟨orL (h.f9 (ofL (by decide) q)).1.1, orL (h.f9 (ofL (by decide) q)).1.2⟩, (h.f9 (ofL (by decide) q)).2⟩, fun q => (upd_ne X _ (fun e => by have := hσ 10 7 (by decide) (by decide) e; omega)).trans (h.f10 (ofL (by decide) q)), fun p q => h.fc (ofL (by decide) p) (ofL (by decide) q)⟩
  exact fun _ => ⟨orL h4, upd_same X _ _⟩
theorem TwoR.s10 {σ : Nat → Nat} {W : World} {a0 e0 : Value} {m D : Scn} {C : Int} {K : Nat → Nat → World → Sv → Prop} {L : Nat → Bool} {X : Nat → Value} {t s sk : Sv} {lo hi k : Nat} {u : World} (h : TwoR σ W a0 e0 m D C K L X t s sk lo hi k u) (hσ : ∀ a b, a < 11 → b < 11 → σ a = σ b → a = b) : TwoR σ W a0 e0 m D C K (cameL L 10) (upd X (σ 10) (.int .i64 C)) t s sk lo hi k u := by
  refine ⟨h.fr, fun q => (upd_ne X _ (fun e => by have := hσ 0 10 (by decide) (by decide) e; omega)).trans (h.f0 (ofL (by decide) q)), fun q => ⟨(upd_ne X _ (fun e => by have := hσ 1 10 (by decide) (by decide) e; omega)).trans (h.f1 (ofL (by decide) q)).1, fun p => (h.f1 (ofL (by decide) q)).2 (ofF (by decide) p)⟩, fun q => (upd_ne X _ (fun e => by have := hσ 2 10 (by decide) (by decide) e; omega)).trans (h.f2 (ofL (by decide) q)), fun q => (upd_ne X _ (fun e => by have := hσ 3 10 (by decide) (by decide) e; omega)).trans (h.f3 (ofL (by decide) q)), fun q => ⟨(upd_ne X _ (fun e => by have := hσ 4 10 (by decide) (by decide) e; omega)).trans (h.f4 (ofL (by decide) q)).1, (h.f4 (ofL (by decide) q)).2⟩, fun q => ⟨orL (h.f5 (ofL (by decide) q)).1, (upd_ne X _ (fun e => by have := hσ 5 10 (by decide) (by decide) e; omega)).trans (h.f5 (ofL (by decide) q)).2⟩, fun q => ⟨orL (h.f6 (ofL (by decide) q)).1, (upd_ne X _ (fun e => by have := hσ 6 10 (by decide) (by decide) e; omega)).trans (h.f6 (ofL (by decide) q)).2⟩, fun q => ⟨orL (h.f7 (ofL (by decide) q)).1, (upd_ne X _ (fun e => by have := hσ 7 10 (by decide) (by decide) e; omega)).trans (h.f7 (ofL (by decide) q)).2⟩, fun q => ⟨(upd_ne X _ (fun e => by have := hσ 8 10 (by decide) (by decide) e; omega)).trans (h.f8 (ofL (by decide) q)).1, (h.f8 (ofL (by decide) q)).2⟩, fun q => ⟨⟨orL (h.f9 (ofL (by decide) q)).1.1, orL (h.f9 (ofL (by decide) q)).1.2⟩, (h.f9 (ofL (by decide) q)).2⟩, ?_, fun p q => h.fc (ofL (by decide) p) (ofL (by decide) q)⟩
  exact fun _ => upd_same X _ _
theorem TwoR.s1 {σ : Nat → Nat} {W : World} {a0 e0 : Value} {m D : Scn} {C : Int} {K : Nat → Nat → World → Sv → Prop} {L : Nat → Bool} {X : Nat → Value} {t s sk : Sv} {lo hi k : Nat} {u : World} (h : TwoR σ W a0 e0 m D C K L X t s sk lo hi k u) (hσ : ∀ a b, a < 11 → b < 11 → σ a = σ b → a = b) (t' : Sv) (hS : ScR (fun b => b < u.heap.size) u t' m) : TwoR σ W a0 e0 m D C K (cameL L 1) (upd X (σ 1) (.agg #[.int .i64 t'.g, .slice t'.lo t'.ll t'.lc, .slice t'.co t'.cl t'.cc, .slice t'.no t'.nl t'.nc, .slice t'.oo t'.ol t'.oc])) t' s sk lo hi k u := by
  refine ⟨h.fr, fun q => (upd_ne X _ (fun e => by have := hσ 0 1 (by decide) (by decide) e; omega)).trans (h.f0 (ofL (by decide) q)), ?_, fun q => (upd_ne X _ (fun e => by have := hσ 2 1 (by decide) (by decide) e; omega)).trans (h.f2 (ofL (by decide) q)), fun q => (upd_ne X _ (fun e => by have := hσ 3 1 (by decide) (by decide) e; omega)).trans (h.f3 (ofL (by decide) q)), fun q => ⟨(upd_ne X _ (fun e => by have := hσ 4 1 (by decide) (by decide) e; omega)).trans (h.f4 (ofL (by decide) q)).1, (h.f4 (ofL (by decide) q)).2⟩, fun q => ⟨orL (h.f5 (ofL (by decide) q)).1, (upd_ne X _ (fun e => by have := hσ 5 1 (by decide) (by decide) e; omega)).trans (h.f5 (ofL (by decide) q)).2⟩, fun q => ⟨orL (h.f6 (ofL (by decide) q)).1, (upd_ne X _ (fun e => by have := hσ 6 1 (by decide) (by decide) e; omega)).trans (h.f6 (ofL (by decide) q)).2⟩, fun q => ⟨orL (h.f7 (ofL (by decide) q)).1, (upd_ne X _ (fun e => by have := hσ 7 1 (by decide) (by decide) e; omega)).trans (h.f7 (ofL (by decide) q)).2⟩, fun q => ⟨(upd_ne X _ (fun e => by have := hσ 8 1 (by decide) (by decide) e; omega)).trans (h.f8 (ofL (by decide) q)).1, (h.f8 (ofL (by decide) q)).2⟩, fun q => ⟨⟨orL (h.f9 (ofL (by decide) q)).1.1, orL (h.f9 (ofL (by decide) q)).1.2⟩, (h.f9 (ofL (by decide) q)).2⟩, fun q => (upd_ne X _ (fun e => by have := hσ 10 1 (by decide) (by decide) e; omega)).trans (h.f10 (ofL (by decide) q)), fun p q => h.fc (ofL (by decide) p) (ofL (by decide) q)⟩
  exact fun _ => ⟨upd_same X _ _, fun _ => hS⟩
theorem TwoR.s4 {σ : Nat → Nat} {W : World} {a0 e0 : Value} {m D : Scn} {C : Int} {K : Nat → Nat → World → Sv → Prop} {L : Nat → Bool} {X : Nat → Value} {t s sk : Sv} {lo hi k : Nat} {u : World} (h : TwoR σ W a0 e0 m D C K L X t s sk lo hi k u) (hσ : ∀ a b, a < 11 → b < 11 → σ a = σ b → a = b) (h4 : L 4 = false) (s' : Sv) (lo' hi' : Nat) (hS : ScR (fun b => lo' ≤ b ∧ b < hi') u s' D) (hl : W.heap.size ≤ lo') (hh : hi' ≤ u.heap.size) (hK : K lo' hi' u s') (hc : L 8 = true → k < lo' ∨ hi' ≤ k) : TwoR σ W a0 e0 m D C K (cameL L 4) (upd X (σ 4) (.tuple #[.agg #[.int .i64 s'.g, .slice s'.lo s'.ll s'.lc, .slice s'.co s'.cl s'.cc, .slice s'.no s'.nl s'.nc, .slice s'.oo s'.ol s'.oc], .int .i64 C])) t s' sk lo' hi' k u := by
  refine ⟨h.fr, fun q => (upd_ne X _ (fun e => by have := hσ 0 4 (by decide) (by decide) e; omega)).trans (h.f0 (ofL (by decide) q)), fun q => ⟨(upd_ne X _ (fun e => by have := hσ 1 4 (by decide) (by decide) e; omega)).trans (h.f1 (ofL (by decide) q)).1, fun p => (h.f1 (ofL (by decide) q)).2 (ofF (by decide) p)⟩, fun q => (upd_ne X _ (fun e => by have := hσ 2 4 (by decide) (by decide) e; omega)).trans (h.f2 (ofL (by decide) q)), fun q => (upd_ne X _ (fun e => by have := hσ 3 4 (by decide) (by decide) e; omega)).trans (h.f3 (ofL (by decide) q)), ?_, fun q => absurd (h.f5 (ofL (by decide) q)).1 (by rw [h4]; simp), fun q => absurd (h.f6 (ofL (by decide) q)).1 (by rw [h4]; simp), fun q => absurd (h.f7 (ofL (by decide) q)).1 (by rw [h4]; simp), fun q => ⟨(upd_ne X _ (fun e => by have := hσ 8 4 (by decide) (by decide) e; omega)).trans (h.f8 (ofL (by decide) q)).1, (h.f8 (ofL (by decide) q)).2⟩, fun q => absurd (h.f9 (ofL (by decide) q)).1.1 (by rw [h4]; simp), fun q => (upd_ne X _ (fun e => by have := hσ 10 4 (by decide) (by decide) e; omega)).trans (h.f10 (ofL (by decide) q)), fun _ q => hc (ofL (by decide) q)⟩
  exact fun _ => ⟨upd_same X _ _, hS, hl, hh, hK⟩
theorem TwoR.s8 {σ : Nat → Nat} {W : World} {a0 e0 : Value} {m D : Scn} {C : Int} {K : Nat → Nat → World → Sv → Prop} {L : Nat → Bool} {X : Nat → Value} {t s sk : Sv} {lo hi k : Nat} {u : World} (h : TwoR σ W a0 e0 m D C K L X t s sk lo hi k u) (hσ : ∀ a b, a < 11 → b < 11 → σ a = σ b → a = b) (h8 : L 8 = false) (k' : Nat) (sk' : Sv) (hk : W.heap.size ≤ k') (hS : ScK u k' sk') (hc : L 4 = true → k' < lo ∨ hi ≤ k') : TwoR σ W a0 e0 m D C K (cameL L 8) (upd X (σ 8) (.pointer (some ⟨k', 0, none⟩))) t s sk' lo hi k' u := by
  refine ⟨h.fr, fun q => (upd_ne X _ (fun e => by have := hσ 0 8 (by decide) (by decide) e; omega)).trans (h.f0 (ofL (by decide) q)), fun q => ⟨(upd_ne X _ (fun e => by have := hσ 1 8 (by decide) (by decide) e; omega)).trans (h.f1 (ofL (by decide) q)).1, fun p => (h.f1 (ofL (by decide) q)).2 (ofF (by decide) p)⟩, fun q => (upd_ne X _ (fun e => by have := hσ 2 8 (by decide) (by decide) e; omega)).trans (h.f2 (ofL (by decide) q)), fun q => (upd_ne X _ (fun e => by have := hσ 3 8 (by decide) (by decide) e; omega)).trans (h.f3 (ofL (by decide) q)), fun q => ⟨(upd_ne X _ (fun e => by have := hσ 4 8 (by decide) (by decide) e; omega)).trans (h.f4 (ofL (by decide) q)).1, (h.f4 (ofL (by decide) q)).2⟩, fun q => ⟨orL (h.f5 (ofL (by decide) q)).1, (upd_ne X _ (fun e => by have := hσ 5 8 (by decide) (by decide) e; omega)).trans (h.f5 (ofL (by decide) q)).2⟩, fun q => ⟨orL (h.f6 (ofL (by decide) q)).1, (upd_ne X _ (fun e => by have := hσ 6 8 (by decide) (by decide) e; omega)).trans (h.f6 (ofL (by decide) q)).2⟩, fun q => ⟨orL (h.f7 (ofL (by decide) q)).1, (upd_ne X _ (fun e => by have := hσ 7 8 (by decide) (by decide) e; omega)).trans (h.f7 (ofL (by decide) q)).2⟩, ?_, fun q => absurd (h.f9 (ofL (by decide) q)).1.2 (by rw [h8]; simp), fun q => (upd_ne X _ (fun e => by have := hσ 10 8 (by decide) (by decide) e; omega)).trans (h.f10 (ofL (by decide) q)), fun p _ => hc (ofL (by decide) p)⟩
  exact fun _ => ⟨upd_same X _ _, hk, hS⟩
theorem TwoR.s9 {σ : Nat → Nat} {W : World} {a0 e0 : Value} {m D : Scn} {C : Int} {K : Nat → Nat → World → Sv → Prop} {L : Nat → Bool} {X : Nat → Value} {t s sk : Sv} {lo hi k : Nat} {u : World} {u' : World} (h : TwoR σ W a0 e0 m D C K L X t s sk lo hi k u) (h4 : L 4 = true) (h8 : L 8 = true) (g : u.grownBy u' (some k)) (hS : ScK u' k s) (hK : (k < lo ∨ hi ≤ k) → K lo hi u s → K lo hi u' s) : TwoR σ W a0 e0 m D C K (cameL L 9) X t s s lo hi k u' := by
  have q4 := h.f4 h4
  have q8 := h.f8 h8
  have qc := h.fc h4 h8
  refine ⟨h.fr.then g (one_blk q8.2.1), fun q => h.f0 (ofL (by decide) q), fun q => ⟨(h.f1 (ofL (by decide) q)).1, fun p => by simp [cameL] at p⟩, fun q => h.f2 (ofL (by decide) q), fun q => h.f3 (ofL (by decide) q), ?_, fun q => ⟨orL (h.f5 (ofL (by decide) q)).1, (h.f5 (ofL (by decide) q)).2⟩, fun q => ⟨orL (h.f6 (ofL (by decide) q)).1, (h.f6 (ofL (by decide) q)).2⟩, fun q => ⟨orL (h.f7 (ofL (by decide) q)).1, (h.f7 (ofL (by decide) q)).2⟩, ?_, fun _ => ⟨⟨orL h4, orL h8⟩, rfl⟩, fun q => h.f10 (ofL (by decide) q), fun _ _ => qc⟩
  · exact fun _ => ⟨q4.1, q4.2.1.keep g (fun j hj p => by simp only [Option.some.injEq] at hj; omega), q4.2.2.1, Nat.le_trans q4.2.2.2.1 g.size, hK qc q4.2.2.2.2⟩
  · exact fun _ => ⟨q8.1, q8.2.1, hS⟩
theorem ScK.put5T {u : World} {b : Nat} {s : Sv} (h : ScK u b s) (t : Sv) : ScK (((((u.setCell ⟨b, 0, none⟩ (.int .i64 t.g)).setCell ⟨b, 1, none⟩ (.slice t.lo t.ll t.lc)).setCell ⟨b, 2, none⟩ (.slice t.co t.cl t.cc)).setCell ⟨b, 3, none⟩ (.slice t.no t.nl t.nc)).setCell ⟨b, 4, none⟩ (.slice t.oo t.ol t.oc)) b t := by
  have e0 := heap_setCell_same u b 0 _ _ (.int .i64 t.g) h
  have e1 := heap_setCell_same _ b 1 _ _ (.slice t.lo t.ll t.lc) e0
  have e2 := heap_setCell_same _ b 2 _ _ (.slice t.co t.cl t.cc) e1
  have e3 := heap_setCell_same _ b 3 _ _ (.slice t.no t.nl t.nc) e2
  exact heap_setCell_same _ b 4 _ _ (.slice t.oo t.ol t.oc) e3
def shL (L : Nat → Bool) : Nat → Bool := fun j => if j = 0 then true else L (j - 1)
theorem shL_came (L : Nat → Bool) (i : Nat) : shL (cameL L i) = cameL (shL L) (i + 1) := by
  funext j
  unfold shL cameL
  by_cases h : j = 0
  · subst h; simp
  · by_cases h2 : j = i + 1
    · subst h2; simp
    · have h3 : ¬ j - 1 = i := by omega
      simp [h, h2, h3]
theorem shL_at {L : Nat → Bool} {i : Nat} (h : L i = true) : shL L (i + 1) = true := by simpa [shL] using h
theorem shL_no {L : Nat → Bool} {i : Nat} (h : L i = false) : shL L (i + 1) = false := by simpa [shL] using h
theorem TwoR.start1 {σ : Nat → Nat} {e0 : Value} {m D : Scn} {C : Int} {K : Nat → Nat → World → Sv → Prop} (w : World) (a b c : Sv) (l h' k' : Nat) : TwoR σ w undef e0 m D C K (shL (fun _ => false)) (fun _ => undef) a b c l h' k' w :=
  ⟨Fr.refl w, fun _ => rfl, (fun q => by simp [shL] at q), (fun q => by simp [shL] at q), (fun q => by simp [shL] at q), (fun q => by simp [shL] at q), (fun q => by simp [shL] at q), (fun q => by simp [shL] at q), (fun q => by simp [shL] at q), (fun q => by simp [shL] at q), (fun q => by simp [shL] at q), (fun q => by simp [shL] at q), (fun q => by simp [shL] at q)⟩
end Go.Proofs.YtplnijpolkflcaaGreatDoor
