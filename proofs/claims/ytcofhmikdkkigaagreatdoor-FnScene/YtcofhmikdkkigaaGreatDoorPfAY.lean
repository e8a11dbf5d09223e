/-
  Pack AY: Bytes, BytesApp, IntsLike, RegStab.
-/
import Derived.Test.YtcofhmikdkkigaaGreatDoorPfAA
import Derived.Laws.AppendOwnNone
namespace Go.Proofs.YtcofhmikdkkigaaGreatDoor
open Go.RowKit

def U8 (x : Int) : Prop := 0 ≤ x ∧ x ≤ 255

structure ReadsB (w : World) (ao : Option Addr) (xs : List Int) : Prop where
  len : xs.length ≤ 4294967296
  bd : ∀ x ∈ xs, U8 x
  at_ : ∀ i, i < xs.length → ∃ b off, ao = some ⟨b, off, none⟩ ∧ ∀ j, j < xs.length → w.cell? ⟨b, off + j, none⟩ = some (.int .u8 (xs.getD j 0))

theorem ReadsB.nil (w : World) (ao : Option Addr) : ReadsB w ao [] := ⟨by simp, by simp, by simp⟩

theorem ReadsB.bdAt {w : World} {ao : Option Addr} {xs : List Int} (h : ReadsB w ao xs) (i : Nat) : U8 (xs.getD i 0) := by
  by_cases hi : i < xs.length
  · rw [List.getD_eq_getElem?_getD, List.getElem?_eq_getElem hi]; exact h.bd _ (List.getElem_mem hi)
  · rw [List.getD_eq_getElem?_getD, List.getElem?_eq_none (by omega)]; exact ⟨by decide, by decide⟩

theorem ReadsB.keep {w w' : World} {ao : Option Addr} {xs : List Int} {row : Option Nat} (h : ReadsB w ao xs) (k : w.grownBy w' row) (hne : row = none ∨ blk ao ≠ row) : ReadsB w' ao xs := by
  refine ⟨h.len, h.bd, fun i hi => ?_⟩
  obtain ⟨b, off, e, hc⟩ := h.at_ i hi
  refine ⟨b, off, e, fun j hj => k.cell (hc j hj) ?_⟩
  rcases hne with rfl | hne
  · simp
  · intro hh
    apply hne
    rw [e, ← hh]
    rfl
theorem ReadsB.fr {w w' : World} {ao : Option Addr} {xs : List Int} (h : ReadsB w ao xs) (k : Fr w w') : ReadsB w' ao xs := h.keep k (.inl rfl)

theorem readsB_of_row {w : World} {a : Option Addr} {len cap : Nat} {zs : List Int}
    (h : (a = none ∧ len = 0 ∧ cap = 0 ∧ zs = []) ∨ ∃ x, a = some x ∧ len ≤ cap ∧ cap ≤ maxLen ∧ zs.length = cap ∧ (∀ i, i < zs.length → w.cell? (x.add i) = some (.int .u8 (zs.getD i 0))) ∧ ∀ n ∈ zs, (Lit.int .u8 n).wf = true)
    (hl : len ≤ 4294967296) : ReadsB w a (zs.take len) ∧ (zs.take len).length = len := by
  rcases h with ⟨rfl, rfl, rfl, rfl⟩ | ⟨x, rfl, h1, h2, h3, h4, h5⟩
  · exact ⟨ReadsB.nil _ _, rfl⟩
  · have hlen : (zs.take len).length = len := by simp; omega
    refine ⟨⟨by omega, fun x hx => ?_, fun i hi => ?_⟩, hlen⟩
    · have := bounds_u8 (h5 x (List.mem_of_mem_take hx))
      exact ⟨by omega, by omega⟩
    · rw [hlen] at hi
      obtain ⟨b, off, spot⟩ := x
      have hc := h4 0 (by omega)
      have hspot : spot = none := by
        have := World.cell?_spot hc
        simpa [Addr.add] using this
      subst hspot
      refine ⟨b, off, rfl, fun j hj => ?_⟩
      rw [hlen] at hj
      have := h4 j (by omega)
      simp only [List.getD_eq_getElem?_getD, List.getElem?_take, if_pos hj] at this ⊢
      have e : (⟨b, off, none⟩ : Addr).add j = ⟨b, off + j, none⟩ := by
        by_cases h0 : j = 0
        · subst h0; rfl
        · simp [Addr.add, h0]
      rwa [e] at this

def OwnB (w : World) (base : Nat) (v : Value) (xs : List Int) : Prop :=
  w.ownsRow base 5 1 v xs.length (xs.map (Value.int .u8)) ∧ xs.length ≤ 4294967296 ∧ ∀ x ∈ xs, U8 x

theorem OwnB.reads {w : World} {base : Nat} {g n cap : Nat} {xs : List Int} (h : OwnB w base (.slice (some ⟨g, 0, none⟩) n cap) xs) : ReadsB w (some ⟨g, 0, none⟩) xs := by
  obtain ⟨ho, hl, hb⟩ := h
  have hn : n = xs.length := by
    rcases ho.2 with ⟨e, _⟩ | ⟨g', c', cur, e, _⟩
    · simp at e
    · simp at e; exact e.2.1
  subst hn
  refine ⟨hl, hb, fun i _ => ⟨g, 0, rfl, fun j hj => ?_⟩⟩
  have := ho.cellAt j (by simpa using hj)
  simp only [Nat.zero_add]
  rw [this]
  simp [List.getElem?_eq_getElem hj, List.getD]

theorem Tryz.info5 : (Tryz.prog.info? 5).map (fun i => (i.zero, i.size, i.bytes)) = some (some (.int .u8 0), 1, 1) := by kernel_rfl
end Go.Proofs.YtcofhmikdkkigaaGreatDoor
namespace Go.Proofs.YtcofhmikdkkigaaGreatDoor
open Go.RowKit

def OwnBS (w : World) (base : Nat) (v : Value) (xs : List Int) : Prop :=
  ∃ g cap, v = .slice (some ⟨g, 0, none⟩) xs.length cap ∧ OwnB w base (.slice (some ⟨g, 0, none⟩) xs.length cap) xs

theorem OwnB.keep {w w' : World} {base : Nat} {v : Value} {xs : List Int} {row : Option Nat} (h : OwnB w base v xs) (k : w.grownBy w' row) (hne : v.ownBlock = none ∨ v.ownBlock ≠ row) : OwnB w' base v xs :=
  ⟨h.1.kept k hne, h.2⟩
theorem OwnB.fr {w w' : World} {base : Nat} {v : Value} {xs : List Int} (h : OwnB w base v xs) (k : Fr w w') : OwnB w' base v xs :=
  h.keep k (by cases v.ownBlock <;> simp)
theorem OwnBS.keep {w w' : World} {base : Nat} {v : Value} {xs : List Int} {row : Option Nat} (h : OwnBS w base v xs) (k : w.grownBy w' row) (hne : v.ownBlock ≠ row) : OwnBS w' base v xs := by
  obtain ⟨g, cap, rfl, ho⟩ := h
  exact ⟨g, cap, rfl, ho.keep k (.inr hne)⟩
theorem OwnBS.fr {w w' : World} {base : Nat} {v : Value} {xs : List Int} (h : OwnBS w base v xs) (k : Fr w w') : OwnBS w' base v xs := by
  obtain ⟨g, cap, rfl, ho⟩ := h
  exact ⟨g, cap, rfl, ho.fr k⟩
theorem OwnB.lower {w : World} {base base' : Nat} {v : Value} {xs : List Int} (h : OwnB w base v xs) (hb : base' ≤ base) : OwnB w base' v xs := by
  refine ⟨⟨h.1.1, ?_⟩, h.2⟩
  rcases h.1.2 with e | ⟨g, cap, cur, e, hg, r⟩
  · exact .inl e
  · exact .inr ⟨g, cap, cur, e, by omega, r⟩
theorem OwnBS.lower {w : World} {base base' : Nat} {v : Value} {xs : List Int} (h : OwnBS w base v xs) (hb : base' ≤ base) : OwnBS w base' v xs := by
  obtain ⟨g, cap, rfl, ho⟩ := h
  exact ⟨g, cap, rfl, ho.lower hb⟩
theorem OwnBS.blk {w : World} {base : Nat} {v : Value} {xs : List Int} (h : OwnBS w base v xs) : ∀ j, v.ownBlock = some j → base ≤ j := by
  obtain ⟨g, cap, rfl, ho⟩ := h
  intro j hj
  exact (ho.1.lt j hj).1
theorem OwnBS.len {w : World} {base : Nat} {v : Value} {xs : List Int} (h : OwnBS w base v xs) : xs.length ≤ 4294967296 := by
  obtain ⟨g, cap, rfl, ho⟩ := h
  exact ho.2.1

theorem ownB_empty (w : World) (base : Nat) (hb : base ≤ w.heap.size) : OwnBS (w.alloc (.cells #[] 5)) base (.slice (some ⟨w.heap.size, 0, none⟩) 0 0) [] :=
  ⟨w.heap.size, 0, rfl, World.ownsRow_made w #[] 0 hb (by unfold maxLen; omega) rfl, by simp, by simp⟩

theorem readsB_one (w : World) (x : Int) (h : U8 x) : ReadsB (w.alloc (.cells #[.int .u8 x] 5)) (some ⟨w.heap.size, 0, none⟩) [x] := by
  refine ⟨by simp, by simpa using h, fun i _ => ⟨w.heap.size, 0, rfl, fun j hj => ?_⟩⟩
  have : j = 0 := by simpa using hj
  subst this
  rw [cell_of_row _ _ _ _ _ _ (heap_alloc_new w _)]
  rfl

theorem shapeB_of {w : World} {base : Nat} {v : Value} {xs : List Int} (h : w.ownsRow base 5 1 v xs.length (xs.map (Value.int .u8))) (hn : v ≠ .slice none 0 0) (hl : xs.length ≤ 4294967296) (hb : ∀ x ∈ xs, U8 x) : OwnBS w base v xs := by
  rcases h.2 with ⟨e, _⟩ | ⟨g, cap, cur, e, r⟩
  · exact absurd e hn
  · subst e; exact ⟨g, cap, rfl, h, hl, hb⟩

theorem appB (w : World) {ops : Array Oper} {rest : List Oper} {o : Oper} {a : Act} {Q : Exit → Act → World → Prop} (hgd : o.guard = none) (s x : Operand)
    (ho : o.op = .call { callee := .builtin .append, args := #[s, x], argTypes := #[22, 22] })
    (base : Nat) (v : Value) (xs news : List Int) (hs : a.eval s = v) (hown : OwnBS w base v xs)
    (ao : Option Addr) (m c : Nat) (hx : a.eval x = .slice ao m c) (hm : news.length = m) (hc : ao = none → c = 0) (hnews : ReadsB w ao news)
    (hlen : xs.length + news.length ≤ 4294967296) (hbase : base ≤ w.heap.size)
    (h : ∀ v' w', OwnBS w' base v' (xs ++ news) → w.grownBy w' v.ownBlock → wpList Tryz.prog ops Q rest (a.put o.dst v') w') : wpList Tryz.prog ops Q (o :: rest) a w := by
  obtain ⟨i0, hi, hz0, hz1, hz2⟩ := info_parts Tryz.info5
  subst hm
  have hbd : ∀ x ∈ xs ++ news, U8 x := by
    obtain ⟨g, cap, rfl, ho⟩ := hown
    intro x hx
    rcases List.mem_append.1 hx with hx | hx
    · exact ho.2.2 x hx
    · exact hnews.bd x hx
  cases ao with
  | none =>
    have hnil : news = [] := by
      cases news with
      | nil => rfl
      | cons y ys => obtain ⟨b, off, e, _⟩ := hnews.at_ 0 (by simp); cases e
    subst hnil
    have := hc rfl
    subst this
    obtain ⟨g, cap, rfl, ho'⟩ := hown
    refine wpList_append_own_none hgd s x 22 ho base 5 i0 1 Tryz.underlying22 hi _ _ _ hs ho'.1 hx ?_
    refine h _ w ?_ ⟨rfl, rfl, rfl, Nat.le_refl _, fun _ _ _ => rfl⟩
    rw [List.append_nil]
    exact ⟨g, cap, rfl, ho'⟩
  | some ad =>
    have hcell : ∀ j u, (news.map (Value.int .u8))[j]? = some u → w.cell? (ad.add j) = some u := by
      intro j u hu
      have hj : j < news.length := by
        have := (List.getElem?_eq_some_iff.1 hu).1
        simpa using this
      obtain ⟨b, off, e, hcc⟩ := hnews.at_ j hj
      simp only [Option.some.injEq] at e
      subst e
      rw [Addr.add_lit, hcc j hj]
      rw [List.getElem?_map, List.getElem?_eq_getElem hj] at hu
      rw [getD_at hj]
      simpa using hu
    obtain ⟨g, cap, rfl, ho'⟩ := hown
    refine wpList_append_own w hgd s x 22 ho base 5 i0 (.int .u8 0) 1 1 Tryz.underlying22 hi hz0 hz1 hz2 rfl (by decide) _ _ _ hs ho'.1 ad news.length c (news.map (Value.int .u8)) hx (by simp) hcell (ints_oneCell _ _) (by unfold maxLen; omega) (by omega) hbase ?_
    intro v' w' hv hg hnz
    refine h v' w' (shapeB_of ?_ ?_ (by simp; omega) hbd) hg
    · simpa using hv
    · intro e
      have := (hnz.1 e).1
      simp at this

theorem ownB_lt {w : World} {base g n cap : Nat} {xs : List Int} (h : OwnB w base (.slice (some ⟨g, 0, none⟩) n cap) xs) : base ≤ g ∧ g < w.heap.size := h.1.lt g rfl
theorem own_neB {g g' n cap : Nat} (h : g ≠ g') : (Value.slice (some ⟨g, 0, none⟩) n cap).ownBlock = none ∨ (Value.slice (some ⟨g, 0, none⟩) n cap).ownBlock ≠ some g' := .inr (by simpa [Value.ownBlock] using h)
theorem one_blkB {a g : Nat} (h : a ≤ g) : ∀ j, some g = some j → a ≤ j := by
  intro j hj
  simp only [Option.some.injEq] at hj
  omega
end Go.Proofs.YtcofhmikdkkigaaGreatDoor
namespace Go.Proofs.YtcofhmikdkkigaaGreatDoor
open Go.RowKit

set_option maxHeartbeats 400000 in
theorem like_any (ao bo : Option Addr) (n m c d : Nat) (xs ys : List Int) (w : World) (hn : xs.length = n) (hm : ys.length = m) (h : Reads w ao xs) (h' : Reads w bo ys) :
    Calls Tryz.prog 64 #[.slice ao n c, .slice bo m d] w fun e w' => e = .returned (.bool (decide (xs = ys))) ∧ ∃ nq, w' = w.drewN nq := by
  subst hn hm
  have hl := h.len
  by_cases hne : xs.length = ys.length
  · have hb : ((xs.length : Int) != (ys.length : Int)) = false := by simp [hne]
    have HNE : Hid (xs.length = ys.length) := hne
    clear hne
    go_enter Tryz.func64, Tryz.ntmps64
    go_wp2
    go_loopw [5] (fun i wr => ∃ k : Nat, k ≤ xs.length ∧ i = .int .i64 k ∧ Hid (xs.take k = ys.take k) ∧ ∃ nq, wr = w.drewN nq) (fun i _ => xs.length - (intOf i).toNat)
    case atStart => exact ⟨0, Nat.zero_le _, rfl, rfl, 0, rfl⟩
    case round =>
      obtain ⟨k, hk, rfl, HT, nq, rfl⟩ := hrel
      by_cases hlt : k < xs.length
      · have hlt' : k < ys.length := by have := HNE.out; omega
        obtain ⟨b, off, rfl, hc⟩ := h.at_ k hlt
        obtain ⟨b', off', rfl, hc'⟩ := h'.at_ k hlt'
        have hck := hc k hlt
        have hck' := hc' k hlt'
        rw [getD_at hlt] at hck
        rw [getD_at hlt'] at hck'
        clear hc hc' hb
        go_wp2
        go_quiet (fail)
        go_wp2
        · have hq : (xs[k] != ys[k]) = true := by assumption
          go_ret
          refine ⟨?_, _, drew2 _ _ _⟩
          rw [ne_of_at hlt hlt' (by simpa using hq)]
          rfl
        · have hq : (xs[k] != ys[k]) = false := by assumption
          go_roundw
          case rel => exact ⟨k + 1, by omega, by go_num, eq_step HNE.out hlt HT.out (by simpa using hq), _, rfl⟩
          case measure => simp [intOf]; omega
      · go_wp2
        go_ret
        refine ⟨?_, nq, rfl⟩
        have e : xs = ys := by
          have h1 := HT.out
          have h2 := HNE.out
          rwa [List.take_of_length_le (by omega), List.take_of_length_le (by omega)] at h1
        have : decide (xs = ys) = true := by simpa using e
        rw [this]
        rfl
  · have hb : ((xs.length : Int) != (ys.length : Int)) = true := by simp; omega
    go_enter Tryz.func64, Tryz.ntmps64
    go_wp2
    go_ret
    refine ⟨?_, 0, rfl⟩
    have : decide (xs = ys) = false := by simp only [decide_eq_false_iff_not]; intro e; exact hne (by rw [e])
    rw [this]
    rfl
end Go.Proofs.YtcofhmikdkkigaaGreatDoor
namespace Go.Proofs.YtcofhmikdkkigaaGreatDoor
open Go.RowKit

def upd (X : Nat → Value) (d : Nat) (v : Value) : Nat → Value := fun k => if k = d then v else X k
theorem upd_same (X : Nat → Value) (d : Nat) (v : Value) : upd X d v d = v := by simp [upd]
theorem upd_ne (X : Nat → Value) {d k : Nat} (v : Value) (h : k ≠ d) : upd X d v k = X k := by simp [upd, h]

theorem getD_put {l : Array Bool} {i k : Nat} (hi : i < l.size) : (l.setIfInBounds i true).getD k false = if k = i then true else l.getD k false := by
  simp only [Array.getD_eq_getD_getElem?, Array.getElem?_setIfInBounds]
  by_cases h : i = k
  · subst h; simp [hi]
  · have : ¬ k = i := fun q => h q.symm
    simp [h, this]
def left (n : Nat) (l : Array Bool) : Nat := ((List.range n).filter fun i => !l.getD i false).length
theorem left_put {l : Array Bool} {i n : Nat} (hn : l.size = n) (hi : i < n) (h : l.getD i false = false) : left n (l.setIfInBounds i true) < left n l := by
  unfold left
  have hs : ∀ (L : List Nat), i ∈ L → L.Nodup → (L.filter fun k => !(l.setIfInBounds i true).getD k false).length < (L.filter fun k => !l.getD k false).length := by
    intro L
    induction L with
    | nil => intro q; cases q
    | cons a L ih =>
      intro hm hnd
      have hsub : ∀ (M : List Nat), i ∉ M → (M.filter fun k => !(l.setIfInBounds i true).getD k false) = (M.filter fun k => !l.getD k false) := by
        intro M hM
        refine List.filter_congr (fun k hk => ?_)
        rw [getD_put (by omega), if_neg (fun (q : k = i) => hM (q ▸ hk))]
      rw [List.nodup_cons] at hnd
      by_cases ha : a = i
      · subst ha
        rw [List.filter_cons, List.filter_cons, getD_put (by omega), if_pos rfl, h, hsub L hnd.1]
        simp
      · have hm2 : i ∈ L := by
          rcases List.mem_cons.1 hm with q | q
          · exact absurd q.symm ha
          · exact q
        have := ih hm2 hnd.2
        rw [List.filter_cons, List.filter_cons, getD_put (by omega), if_neg ha]
        split
        · rw [List.length_cons, List.length_cons]; omega
        · exact this
  exact hs _ (List.mem_range.2 hi) List.nodup_range
theorem left_pos {l : Array Bool} {i n : Nat} (hi : i < n) (h : l.getD i false = false) : 0 < left n l := by
  unfold left
  exact List.length_pos_of_mem (List.mem_filter.2 ⟨List.mem_range.2 hi, by rw [h]; rfl⟩)

section
variable {P : Program} {ops : Array Oper} {Q : Exit → Act → World → Prop} {w : World} (n : Nat) (dst : Nat → Nat) (mk : (Nat → Value) → Act) (R : Nat → Value → World → Prop) (Le : World → World → Prop)

def StabInv (Q : Exit → Act → World → Prop) (w : World) (l : Array Bool) (a : Act) (u : World) : Prop :=
  l.size = n + 1 ∧ ((l.getD n false = false ∧ ∃ X, a = mk X ∧ Le w.drew u ∧ ∀ i, i < n → l.getD i false = true → R i (X (dst i)) u) ∨ ((∀ i, i < n + 1 → l.getD i false = true) ∧ Q .normal a u))

theorem wpAny_stab (hn : ops.size = n + 1) (hd : ∀ i j, i < n → j < n → dst i = dst j → i = j) (htr : ∀ a b c, Le a b → Le b c → Le a c) (hR : ∀ i v u u', R i v u → Le u u' → R i v u')
    (hlex : ∀ (i : Nat) (o : Oper), ops[i]? = some o → ∀ e ∈ o.after, e.on < i)
    (hall : ∀ o, ops[n]? = some o → ∀ i, i < n → ∃ e ∈ o.after, e.on = i ∧ Region.binds .any e = true)
    (step : ∀ (i : Nat) (o : Oper) X u, i < n → ops[i]? = some o → Le w.drew u → (∀ e ∈ o.after, Region.binds .any e = true → R e.on (X (dst e.on)) u) →
      Region.wanted o (yielded ops (mk X).tmps) = true ∧ o.wp P (mk X) u (fun a' u' => ∃ v, a' = mk (upd X (dst i) v) ∧ Le u u' ∧ R i v u') Q)
    (last : ∀ o X u, ops[n]? = some o → Le w.drew u → (∀ i, i < n → R i (X (dst i)) u) → Region.wanted o (yielded ops (mk X).tmps) = true ∧ o.wp P (mk X) u (fun a' u' => Q .normal a' u') Q) :
    ∀ (fuel : Nat) (l : Array Bool) (a : Act) (u : World), left (n + 1) l ≤ fuel → StabInv n dst mk R Le Q w l a u → wpAny P .any ops Q fuel l a u := by
  have hready : ∀ (l : Array Bool), l.size = n + 1 → (∃ i, i < n + 1 ∧ l.getD i false = false) → Region.ready .any ops l ≠ [] := by
    intro l hl hex he
    have hmin : ∀ m, m ≤ n + 1 → (∀ k, k < m → l.getD k false = true) := by
      intro m
      induction m with
      | zero => intro _ k hk; omega
      | succ m ih =>
        intro hm k hk
        by_cases hkm : k < m
        · exact ih (by omega) k hkm
        · have hk2 : k = m := by omega
          subst hk2
          cases hv : l.getD k false
          · exfalso
            have ho : ops[k]? = some ops[k] := Array.getElem?_eq_getElem (by omega)
            have : k ∈ Region.ready .any ops l := mem_ready.2 ⟨by
              rw [Array.getD_eq_getD_getElem?] at hv ⊢
              rw [Array.getElem?_eq_getElem (by omega)] at hv ⊢
              exact hv, _, ho, fun e he2 _ => ih (by omega) _ (hlex k _ ho e he2)⟩
            rw [he] at this
            cases this
          · rfl
    obtain ⟨i, hi, hf⟩ := hex
    have := hmin (n + 1) (Nat.le_refl _) i hi
    rw [hf] at this
    cases this
  intro fuel
  induction fuel with
  | zero =>
    intro l a u hf ⟨hl, hI⟩
    rcases hI with ⟨h0, -⟩ | ⟨h1, h2⟩
    · have := left_pos (l := l) (n := n + 1) (i := n) (by omega) h0
      omega
    · refine ⟨?_, h2⟩
      cases hr : Region.ready .any ops l with
      | nil => rfl
      | cons i r =>
        exfalso
        have hm : i ∈ Region.ready .any ops l := by rw [hr]; exact List.mem_cons_self
        obtain ⟨q1, o, q2, -⟩ := mem_ready.1 hm
        have hi : i < n + 1 := by rw [← hn]; exact (Array.getElem?_eq_some_iff.1 q2).1
        have := h1 i hi
        rw [Array.getD_eq_getD_getElem?] at this q1
        rw [Array.getElem?_eq_getElem (by omega)] at this q1
        simp at this q1
        rw [this] at q1
        cases q1
  | succ fuel ih =>
    intro l a u hf ⟨hl, hI⟩
    rcases hI with ⟨h0, X, rfl, hF, hX⟩ | ⟨h1, h2⟩
    · refine ⟨fun he => absurd he (hready l hl ⟨n, by omega, h0⟩), fun i hi => ?_⟩
      obtain ⟨q1, o, q2, q3⟩ := mem_ready.1 hi
      have hi2 : i < n + 1 := by rw [← hn]; exact (Array.getElem?_eq_some_iff.1 q2).1
      have hfi : l.getD i false = false := by
        rw [Array.getD_eq_getD_getElem?] at q1 ⊢
        rw [Array.getElem?_eq_getElem (by omega)] at q1 ⊢
        exact q1
      have hlt := left_put hl hi2 hfi
      unfold wpOp
      simp only [q2]
      by_cases hin : i = n
      · subst hin
        obtain ⟨w1, w2⟩ := last o X u q2 hF (fun k hk => by
          obtain ⟨e, e1, e2, e3⟩ := hall o q2 k hk
          exact hX k hk (e2 ▸ q3 e e1 e3))
        rw [if_pos w1]
        refine .inl (Oper.wp_mono (fun a' u' hq => ih _ a' u' (by omega) ⟨by simpa using hl, .inr ⟨fun k hk => ?_, hq⟩⟩) w2)
        rw [getD_put (by omega)]
        by_cases hki : k = i
        · rw [if_pos hki]
        · rw [if_neg hki]
          obtain ⟨e, e1, e2, e3⟩ := hall o q2 k (by omega)
          exact e2 ▸ q3 e e1 e3
      · obtain ⟨w1, w2⟩ := step i o X u (by omega) q2 hF (fun e he hb => hX e.on (by have := hlex i o q2 e he; omega) (q3 e he hb))
        rw [if_pos w1]
        refine .inl (Oper.wp_mono (fun a' u' hq => ?_) w2)
        obtain ⟨v, rfl, f2, r2⟩ := hq
        refine ih _ _ u' (by omega) ⟨by simpa using hl, .inl ⟨by rw [getD_put (by omega), if_neg (fun q => hin q.symm)]; exact h0, _, rfl, htr _ _ _ hF f2, fun k hk hkl => ?_⟩⟩
        rw [getD_put (by omega)] at hkl
        by_cases hki : k = i
        · subst hki
          rw [upd_same]
          exact r2
        · rw [if_neg hki] at hkl
          rw [upd_ne _ _ (fun q => hki (hd k i hk (by omega) q))]
          exact hR k _ _ _ (hX k hk hkl) f2
    · refine ⟨fun _ => h2, fun i hi => ?_⟩
      exfalso
      obtain ⟨q1, o, q2, -⟩ := mem_ready.1 hi
      have hi : i < n + 1 := by rw [← hn]; exact (Array.getElem?_eq_some_iff.1 q2).1
      have := h1 i hi
      rw [Array.getD_eq_getD_getElem?] at this q1
      rw [Array.getElem?_eq_getElem (by omega)] at this q1
      simp at this q1
      rw [this] at q1
      cases q1
end
theorem wp_region_le {P : Program} {ops : Array Oper} {Q : Exit → Act → World → Prop} {w : World} {id : Nat} (n : Nat) (dst : Nat → Nat) (mk : (Nat → Value) → Act) (R : Nat → Value → World → Prop) (Le : World → World → Prop) (X0 : Nat → Value) (hrf : ∀ u, Le u u) (htr : ∀ a b c, Le a b → Le b c → Le a c)
    (hm : P.follows .mixedOrders = true) (hn : ops.size = n + 1) (hd : ∀ i j, i < n → j < n → dst i = dst j → i = j) (hR : ∀ i v u u', R i v u → Le u u' → R i v u')
    (hlex : ∀ (i : Nat) (o : Oper), ops[i]? = some o → ∀ e ∈ o.after, e.on < i)
    (hall : ∀ o, ops[n]? = some o → ∀ i, i < n → ∃ e ∈ o.after, e.on = i ∧ Region.binds .any e = true)
    (step : ∀ (i : Nat) (o : Oper) X u, i < n → ops[i]? = some o → Le w.drew u → (∀ e ∈ o.after, Region.binds .any e = true → R e.on (X (dst e.on)) u) →
      Region.wanted o (yielded ops (mk X).tmps) = true ∧ o.wp P (mk X) u (fun a' u' => ∃ v, a' = mk (upd X (dst i) v) ∧ Le u u' ∧ R i v u') Q)
    (last : ∀ o X u, ops[n]? = some o → Le w.drew u → (∀ i, i < n → R i (X (dst i)) u) → Region.wanted o (yielded ops (mk X).tmps) = true ∧ o.wp P (mk X) u (fun a' u' => Q .normal a' u') Q) :
    (Code.region id ops true).wp P Q (mk X0) w := by
  refine wp_region_any hm (wpAny_stab n dst mk R Le hn hd htr hR hlex hall step last _ _ _ _ ?_ ⟨by simp [hn], .inl ⟨by simp [Array.getD_eq_getD_getElem?, hn], X0, rfl, hrf _, fun i hi h => ?_⟩⟩)
  · rw [hn]
    unfold left
    exact Nat.le_trans (List.length_filter_le _ _) (by simp)
  · exfalso
    rw [Array.getD_eq_getD_getElem?, Array.getElem?_replicate] at h
    split at h <;> simp at h
theorem wp_region_stab {P : Program} {ops : Array Oper} {Q : Exit → Act → World → Prop} {w : World} {id : Nat} (n : Nat) (dst : Nat → Nat) (mk : (Nat → Value) → Act) (R : Nat → Value → World → Prop) (X0 : Nat → Value)
    (hm : P.follows .mixedOrders = true) (hn : ops.size = n + 1) (hd : ∀ i j, i < n → j < n → dst i = dst j → i = j) (hR : ∀ i v u u', R i v u → Fr u u' → R i v u')
    (hlex : ∀ (i : Nat) (o : Oper), ops[i]? = some o → ∀ e ∈ o.after, e.on < i)
    (hall : ∀ o, ops[n]? = some o → ∀ i, i < n → ∃ e ∈ o.after, e.on = i ∧ Region.binds .any e = true)
    (step : ∀ (i : Nat) (o : Oper) X u, i < n → ops[i]? = some o → Fr w.drew u → (∀ e ∈ o.after, Region.binds .any e = true → R e.on (X (dst e.on)) u) →
      Region.wanted o (yielded ops (mk X).tmps) = true ∧ o.wp P (mk X) u (fun a' u' => ∃ v, a' = mk (upd X (dst i) v) ∧ Fr u u' ∧ R i v u') Q)
    (last : ∀ o X u, ops[n]? = some o → Fr w.drew u → (∀ i, i < n → R i (X (dst i)) u) → Region.wanted o (yielded ops (mk X).tmps) = true ∧ o.wp P (mk X) u (fun a' u' => Q .normal a' u') Q) :
    (Code.region id ops true).wp P Q (mk X0) w :=
  wp_region_le n dst mk R Fr X0 Fr.refl (fun _ _ _ h k => h.trans k) hm hn hd hR hlex hall step last
def lexOk (ops : Array Oper) : Bool := (List.range ops.size).all fun i => ((ops[i]?).map fun o => o.after.all fun e => decide (e.on < i)).getD true
def allOk (ops : Array Oper) (n : Nat) : Bool := ((ops[n]?).map fun o => (List.range n).all fun i => o.after.any fun e => e.on == i && Region.binds .any e).getD true
def dstOk (dst : Nat → Nat) (n : Nat) : Bool := (List.range n).all fun i => (List.range n).all fun j => !(dst i == dst j) || i == j
theorem lex_of {ops : Array Oper} (h : lexOk ops = true) : ∀ (i : Nat) (o : Oper), ops[i]? = some o → ∀ e ∈ o.after, e.on < i := by
  intro i o ho e he
  have hi := (Array.getElem?_eq_some_iff.1 ho).1
  have h1 := List.all_eq_true.1 h i (List.mem_range.2 hi)
  simp only [ho, Option.map_some, Option.getD_some, Array.all_eq_true_iff_forall_mem, decide_eq_true_eq] at h1
  exact h1 e he
theorem allR_of {ops : Array Oper} {n : Nat} (h : allOk ops n = true) : ∀ o, ops[n]? = some o → ∀ i, i < n → ∃ e ∈ o.after, e.on = i ∧ Region.binds .any e = true := by
  intro o ho i hi
  unfold allOk at h
  simp only [ho, Option.map_some, Option.getD_some] at h
  have h1 := List.all_eq_true.1 h i (List.mem_range.2 hi)
  simp only [Array.any_eq_true'] at h1
  obtain ⟨e, he, hb⟩ := h1
  simp only [Bool.and_eq_true, beq_iff_eq] at hb
  exact ⟨e, he, hb⟩
theorem dst_of {dst : Nat → Nat} {n : Nat} (h : dstOk dst n = true) : ∀ i j, i < n → j < n → dst i = dst j → i = j := by
  intro i j hi hj e
  have h1 := List.all_eq_true.1 (List.all_eq_true.1 h i (List.mem_range.2 hi)) j (List.mem_range.2 hj)
  simpa [e] using h1
end Go.Proofs.YtcofhmikdkkigaaGreatDoor
