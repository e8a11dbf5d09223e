/-
  Slices of structs: a list that is written out, 'append' of a whole list.
-/
import Derived.Test.YthehhiccfnhinaaGreatDoorPackAB
import Derived.Test.YthehhiccfnhinaaGreatDoorPackAD
import Derived.BigQuiet
import Derived.Test.YthehhiccfnhinaaGreatDoorPackAC
import Derived.Maps.OwnSet
namespace Go.Proofs.YthehhiccfnhinaaGreatDoor
open Go.RowKit

theorem flatG_len {α : Type} (L : Lay α) (xs : List α) : (xs.flatMap L.cs).length = xs.length * L.sz := by
  induction xs with
  | nil => simp
  | cons e es ih => rw [List.flatMap_cons, List.length_append, ih, L.len, List.length_cons, Nat.succ_mul, Nat.add_comm]
theorem flatG_one {α : Type} (L : Lay α) (xs : List α) : ∀ u ∈ xs.flatMap L.cs, u.oneCell' = true := by
  intro u hu
  obtain ⟨x, -, hx⟩ := List.mem_flatMap.1 hu
  exact L.one x u hx
/-- A new list. -/
theorem ownG_lit {α : Type} (L : Lay α) (w : World) (xs : List α) (hl : xs.length ≤ 1000) (o : Obj) (ho : o = .cells (xs.flatMap L.cs).toArray L.ty (0, 0)) : OwnG L (w.alloc o) w.heap.size (.slice (some ⟨w.heap.size, 0, none⟩) xs.length xs.length) xs := by
  subst ho
  have hf := flatG_len L xs
  exact ⟨w.heap.size, xs.length, rfl, ⟨hf, .inr ⟨w.heap.size, xs.length, (xs.flatMap L.cs).toArray, rfl, Nat.le_refl _, heap_alloc_new w _, Nat.le_refl _, by unfold maxLen; omega, by simpa using hf, by simp [List.take_of_length_le, hf]⟩⟩, by omega⟩
theorem ownG_litK {α : Type} (L : Lay α) (w : World) (xs : List α) (hl : xs.length ≤ 1000) (o : Obj) (ho : o = .cells (xs.flatMap L.cs).toArray L.ty (0, 0)) (k base : Nat) (hk : w.heap.size = k) (hb : base ≤ k) : OwnG L (w.alloc o) base (.slice (some ⟨k, 0, none⟩) xs.length xs.length) xs := by
  subst hk
  exact (ownG_lit L w xs hl o ho).lower hb
/-- What is read is what is to be appended. -/
theorem news_of_reads {α : Type} {L : Lay α} {w : World} {b off : Nat} {ys : List α} (h : ReadsG L w (some ⟨b, off, none⟩) ys) : ∀ j u, (ys.flatMap L.cs)[j]? = some u → w.cell? ((⟨b, off, none⟩ : Addr).add j) = some u := by
  intro j u hu
  have hj := (List.getElem?_eq_some_iff.1 hu).1
  rw [flatG_len] at hj
  have hpos := L.pos
  have hq : j / L.sz < ys.length := (Nat.div_lt_iff_lt_mul hpos).2 hj
  have hr : j % L.sz < L.sz := Nat.mod_lt _ hpos
  have hs : j / L.sz * L.sz + j % L.sz = j := by rw [Nat.mul_comm]; exact Nat.div_add_mod j L.sz
  obtain ⟨b', off', e, hc⟩ := h.at_ (j / L.sz) hq
  simp only [Option.some.injEq, Addr.mk.injEq, and_true] at e
  obtain ⟨rfl, rfl⟩ := e
  have h1 := hc _ hq _ hr
  rw [← cellsG_at L ys _ _ hq hr, hs, Nat.add_assoc, hs, hu] at h1
  rw [Addr.add_lit]
  exact h1

theorem appGL {α : Type} (L : Lay α) (w : World) {ops : Array Oper} {rest : List Oper} {o : Oper} {a : Act} {Q : Exit → Act → World → Prop} (hgd : o.guard = none) (s x : Operand) (T : TypeId) (z : Value) (bytes : Nat)
    (ho : o.op = .call { callee := .builtin .append, args := #[s, x], argTypes := #[T, T] })
    (hT : Tryz.prog.underlying T = some (.slice L.ty)) (hI : (Tryz.prog.info? L.ty).map (fun i => (i.zero, i.size, i.bytes)) = some (some z, L.sz, bytes)) (hzs : z.cells.size = L.sz) (hby : bytes ≤ 1000)
    (base : Nat) (v : Value) (xs ys : List α) (hs : a.eval s = v) (hown : OwnG L w base v xs)
    (ad : Addr) (c : Nat) (hx : a.eval x = .slice (some ad) ys.length c) (hnew : ∀ j u, (ys.flatMap L.cs)[j]? = some u → w.cell? (ad.add j) = some u)
    (hlen : xs.length + ys.length ≤ 16777216) (hbase : base ≤ w.heap.size)
    (h : ∀ v' w', OwnG L w' base v' (xs ++ ys) → w.grownBy w' v.ownBlock → (v'.ownBlock = v.ownBlock ∨ v'.ownBlock = some w.heap.size) → wpList Tryz.prog ops Q rest (a.put o.dst v') w') : wpList Tryz.prog ops Q (o :: rest) a w := by
  obtain ⟨i0, hi, hz0, hz1, hz2⟩ := info_parts hI
  obtain ⟨g, cap, rfl, ho', hl⟩ := hown
  have hb : (xs.length + ys.length) * bytes ≤ 140737488355328 := by
    have := Nat.mul_le_mul hlen hby
    omega
  refine wpList_append_own_at w hgd s x T ho base L.ty i0 z L.sz bytes hT hi hz0 hz1 hz2 hzs L.pos _ _ _ hs ho' ad ys.length c (ys.flatMap L.cs) hx (flatG_len L ys) hnew (flatG_one L ys) (by unfold maxLen; omega) hb hbase ?_
  intro v' w' hv hg hnz hat
  refine h v' w' ?_ hg hat
  rcases hv.2 with ⟨e', _⟩ | ⟨g', cap', cur, e', r⟩
  · have := (hnz.1 e').1
    simp at this
  · subst e'
    exact ⟨g', cap', by simp, by simpa [List.flatMap_append] using hv, by simp; omega⟩
end Go.Proofs.YthehhiccfnhinaaGreatDoor
/-
  The specification's touches: l6Slot.
-/
namespace Go.Proofs.YthehhiccfnhinaaGreatDoor
open Go.RowKit

theorem cntK_take (k o : Int) (es : List Ev) (i : Nat) (hi : i < es.length) : cntK k o (es.take (i + 1)) = cntK k o (es.take i) + (if es[i].o = o ∧ es[i].k = k then 1 else 0) := by
  rw [List.take_succ_eq_append_getElem hi, cntK_one]
theorem capK_take (o : Int) (es : List Ev) (i : Nat) (hi : i < es.length) : capK o (es.take (i + 1)) = if es[i].o = o ∧ es[i].k = 6 then es[i].s else capK o (es.take i) := by
  rw [List.take_succ_eq_append_getElem hi, capK_one]
theorem cntK_le (k o : Int) (es : List Ev) (i : Nat) : cntK k o (es.take i) ≤ i := by
  unfold cntK
  exact Nat.le_trans List.countP_le_length (by simp; omega)

set_option maxRecDepth 20000 in
set_option maxHeartbeats 2000000 in
theorem l6Slot_any (ao : Option Addr) (n c : Nat) (es : List Ev) (w : World) (hn : es.length = n) (h : ReadsE w ao es) (j : Nat) (hj : j < es.length) (hr : capK es[j].o (es.take j) ≠ 0) :
    Calls Tryz.prog 191 #[.slice ao n c, .int .i64 j] w fun x w' => x = .returned (.int .i64 (slotE (es.take j) es[j])) ∧ Fr w w' := by
  subst hn
  have hl := h.len
  obtain ⟨fb, off, rfl, hev⟩ := h.at_ j hj
  have hjn : (j : Int) < es.length := by omega
  obtain ⟨F, hF⟩ : ∃ F, F = es[j] := ⟨_, rfl⟩
  have HJ := hev j hj
  rw [← hF] at HJ hr ⊢
  clear hF
  obtain ⟨fk, fg, fo, fw, fl, fs, ff, ft⟩ := F
  have HE : Hid (slotE (es.take j) ⟨fk, fg, fo, fw, fl, fs, ff, ft⟩ = (cntK fk fo (es.take j) : Int).tmod (capK fo (es.take j))) := rfl
  simp only at hr
  have HR : Hid (capK fo (es.take j) ≠ 0) := hr
  clear hr
  go_enter Tryz.func191, Tryz.ntmps191
  go_wp2_with fail
  go_loopw [5, 6, 7] (fun cn cr i wr => ∃ (k : Nat) (N : Nat) (R : Int), k ≤ j ∧ i = .int .i64 k ∧ cn = .int .i64 N ∧ cr = .int .i64 R ∧ Hid (N = cntK fk fo (es.take k) ∧ R = capK fo (es.take k)) ∧ N ≤ k ∧ Fr w wr) (fun _ _ i _ => j - (intOf i).toNat)
  case atStart => exact ⟨0, 0, 1, Nat.zero_le _, rfl, rfl, rfl, ⟨by simp [cntK], by simp [capK]⟩, Nat.le_refl _, Fr.refl w⟩
  case round =>
    obtain ⟨k, N, R, hk, rfl, rfl, rfl, HC, hN, hf⟩ := hrel
    by_cases hlt : k < j
    · have hkl : k < es.length := by omega
      have HK := hev k hkl
      obtain ⟨d0, d1, d2, d3, d4, d5, d6, d7⟩ := HJ.keep hf (by simp)
      obtain ⟨c0, c1, c2, c3, c4, c5, c6, c7⟩ := HK.keep hf (by simp)
      have hi : (k : Int) < es.length := by omega
      have hi2 : (k : Int) < j := by omega
      have HN := cntK_take fk fo es k hkl
      have HP := capK_take fo es k hkl
      obtain ⟨E, hE⟩ : ∃ E, E = es[k] := ⟨_, rfl⟩
      rw [← hE] at c0 c1 c2 c3 c4 c5 c6 c7 HN HP
      clear hE HK
      obtain ⟨ek, eg, eo, ew, el, ez, ef, et⟩ := E
      simp only at c0 c1 c2 c3 c4 c5 c6 c7 d0 d1 d2 d3 d4 d5 d6 d7 HN HP
      clear c1 c3 c4 c6 c7 d1 d3 d4 d5 d6 d7
      by_cases ho : eo = fo
      · have hob : (eo == fo) = true := by simp [ho]
        by_cases hk : ek = fk
        · have hkb : (ek == fk) = true := by simp [hk]
          by_cases h6 : ek = 6
          · have h6b : (ek == 6) = true := by simp [h6]
            rw [if_pos ⟨ho, hk⟩] at HN
            rw [if_pos ⟨ho, h6⟩] at HP
            have HN : Hid _ := HN
            have HP : Hid _ := HP
            clear ho hk h6
            go_wp2_with fail
            go_quiet (fail)
            go_wp2_with fail
            go_quiet (fail)
            go_wp2_with fail
            go_roundw
            case rel => exact ⟨k + 1, N + 1, ez, by omega, by go_num, by go_num, rfl, ⟨by rw [HN.out, HC.out.1], HP.out.symm⟩, by omega, hf.trans (Fr.drewN _ _)⟩
            case measure => simp [intOf]; omega
          · have h6b : (ek == 6) = false := by simp [h6]
            rw [if_pos ⟨ho, hk⟩] at HN
            rw [if_neg (by omega)] at HP
            have HN : Hid _ := HN
            have HP : Hid _ := HP
            clear ho hk h6
            go_wp2_with fail
            go_quiet (fail)
            go_wp2_with fail
            go_quiet (fail)
            go_wp2_with fail
            go_roundw
            case rel => exact ⟨k + 1, N + 1, R, by omega, by go_num, by go_num, rfl, ⟨by rw [HN.out, HC.out.1], by rw [HP.out, HC.out.2]⟩, by omega, hf.trans (Fr.drewN _ _)⟩
            case measure => simp [intOf]; omega
        · have hkb : (ek == fk) = false := by simp [hk]
          by_cases h6 : ek = 6
          · have h6b : (ek == 6) = true := by simp [h6]
            rw [if_neg (by omega)] at HN
            rw [if_pos ⟨ho, h6⟩] at HP
            have HN : Hid _ := HN
            have HP : Hid _ := HP
            clear ho hk h6
            go_wp2_with fail
            go_quiet (fail)
            go_wp2_with fail
            go_quiet (fail)
            go_wp2_with fail
            go_roundw
            case rel => exact ⟨k + 1, N, ez, by omega, by go_num, rfl, rfl, ⟨by rw [HN.out, HC.out.1]; rfl, HP.out.symm⟩, by omega, hf.trans (Fr.drewN _ _)⟩
            case measure => simp [intOf]; omega
          · have h6b : (ek == 6) = false := by simp [h6]
            rw [if_neg (by omega)] at HN
            rw [if_neg (by omega)] at HP
            have HN : Hid _ := HN
            have HP : Hid _ := HP
            clear ho hk h6
            go_wp2_with fail
            go_quiet (fail)
            go_wp2_with fail
            go_quiet (fail)
            go_wp2_with fail
            go_roundw
            case rel => exact ⟨k + 1, N, R, by omega, by go_num, rfl, rfl, ⟨by rw [HN.out, HC.out.1]; rfl, by rw [HP.out, HC.out.2]⟩, by omega, hf.trans (Fr.drewN _ _)⟩
            case measure => simp [intOf]; omega
      · have hob : (eo == fo) = false := by simp [ho]
        rw [if_neg (by omega)] at HN
        rw [if_neg (by omega)] at HP
        have HN : Hid _ := HN
        have HP : Hid _ := HP
        clear ho
        go_wp2_with fail
        go_quiet (fail)
        go_wp2_with fail
        go_quiet (fail)
        go_wp2_with fail
        go_roundw
        case rel => exact ⟨k + 1, N, R, by omega, by go_num, rfl, rfl, ⟨by rw [HN.out, HC.out.1]; rfl, by rw [HP.out, HC.out.2]⟩, by omega, hf.trans (Fr.drewN _ _)⟩
        case measure => simp [intOf]; omega
    · have e : k = j := by omega
      subst e
      have hR0 : R ≠ 0 := by rw [HC.out.2]; exact HR.out
      have hR1 : ¬ R = 0 := hR0
      go_wp2_with fail
      go_ret
      exact ⟨by rw [HE.out, ← HC.out.1, ← HC.out.2, Int.tmod_eq_emod_of_nonneg (Int.natCast_nonneg N)]; rfl, hf⟩
end Go.Proofs.YthehhiccfnhinaaGreatDoor
/-
  The specification's touches, kind by kind (1, 2, 3, 4, 5, 6).
-/
namespace Go.Proofs.YthehhiccfnhinaaGreatDoor
open Go.RowKit

set_option maxRecDepth 20000 in
set_option maxHeartbeats 1000000 in
theorem l6T_1 (fg fo fw fl fs ff ft : Int) (ao : Option Addr) (n c : Nat) (es : List Ev) (w : World) (hn : es.length = n) (h : ReadsE w ao es) (j : Nat) (hj : j < es.length) (hF : es[j] = ⟨1, fg, fo, fw, fl, fs, ff, ft⟩) :
    Calls Tryz.prog 163 #[.slice ao n c, .int .i64 j] w fun x w' => ∃ v, x = .returned v ∧ OwnG layT w' w.heap.size v [] ∧ Fr w w' := by
  subst hn
  have hl := h.len
  obtain ⟨fb, off, rfl, hev⟩ := h.at_ j hj
  have HJ := hev j hj
  rw [hF] at HJ
  obtain ⟨d0, d1, d2, d3, d4, d5, d6, d7⟩ := HJ
  simp only at d0 d1 d2 d3 d4 d5 d6 d7
  have hjn : (j : Int) < es.length := by omega
  clear hev hF h
  go_enter Tryz.func163, Tryz.ntmps163
  go_wp2_with fail
  go_ret
  refine ⟨.slice (some ⟨w.heap.size + 1 + 1 + 1 + 1, 0, none⟩) 0 0, rfl, ?_, ?_⟩
  · exact ownG_litK layT _ [] (by simp) _ rfl _ _ (by simp) (by omega)
  · exact ((((Fr.alloc _ _).trans (Fr.alloc _ _)).trans (Fr.alloc _ _)).trans (Fr.alloc _ _)).trans (Fr.alloc _ _)

set_option maxRecDepth 20000 in
set_option maxHeartbeats 1000000 in
theorem l6T_2 (fg fo fw fl fs ff ft : Int) (ao : Option Addr) (n c : Nat) (es : List Ev) (w : World) (hn : es.length = n) (h : ReadsE w ao es) (j : Nat) (hj : j < es.length) (hF : es[j] = ⟨2, fg, fo, fw, fl, fs, ff, ft⟩) :
    Calls Tryz.prog 163 #[.slice ao n c, .int .i64 j] w fun x w' => ∃ v, x = .returned v ∧ OwnG layT w' w.heap.size v [⟨1, fo, 0, true, false⟩, ⟨2, fo, 0, true, false⟩] ∧ Fr w w' := by
  subst hn
  have hl := h.len
  obtain ⟨fb, off, rfl, hev⟩ := h.at_ j hj
  have HJ := hev j hj
  rw [hF] at HJ
  obtain ⟨d0, d1, d2, d3, d4, d5, d6, d7⟩ := HJ
  simp only at d0 d1 d2 d3 d4 d5 d6 d7
  have hjn : (j : Int) < es.length := by omega
  clear hev hF h
  go_enter Tryz.func163, Tryz.ntmps163
  go_wp2_with fail
  go_ret
  refine ⟨.slice (some ⟨w.heap.size + 1 + 1 + 1 + 1 + 1, 0, none⟩) 2 2, rfl, ?_, ?_⟩
  · exact ownG_litK layT _ [⟨1, fo, 0, true, false⟩, ⟨2, fo, 0, true, false⟩] (by simp) _ rfl _ _ (by simp) (by omega)
  · exact (((((Fr.alloc _ _).trans (Fr.alloc _ _)).trans (Fr.alloc _ _)).trans (Fr.alloc _ _)).trans (Fr.alloc _ _)).trans (Fr.alloc _ _)

set_option maxRecDepth 20000 in
set_option maxHeartbeats 1000000 in
theorem l6T_3 (fg fo fw fl fs ff ft : Int) (ao : Option Addr) (n c : Nat) (es : List Ev) (w : World) (hn : es.length = n) (h : ReadsE w ao es) (j : Nat) (hj : j < es.length) (hF : es[j] = ⟨3, fg, fo, fw, fl, fs, ff, ft⟩) :
    Calls Tryz.prog 163 #[.slice ao n c, .int .i64 j] w fun x w' => ∃ v, x = .returned v ∧ OwnG layT w' w.heap.size v [⟨1, fo, 0, false, true⟩] ∧ Fr w w' := by
  subst hn
  have hl := h.len
  obtain ⟨fb, off, rfl, hev⟩ := h.at_ j hj
  have HJ := hev j hj
  rw [hF] at HJ
  obtain ⟨d0, d1, d2, d3, d4, d5, d6, d7⟩ := HJ
  simp only at d0 d1 d2 d3 d4 d5 d6 d7
  have hjn : (j : Int) < es.length := by omega
  clear hev hF h
  go_enter Tryz.func163, Tryz.ntmps163
  go_wp2_with fail
  go_ret
  refine ⟨.slice (some ⟨w.heap.size + 1 + 1 + 1 + 1, 0, none⟩) 1 1, rfl, ?_, ?_⟩
  · exact ownG_litK layT _ [⟨1, fo, 0, false, true⟩] (by simp) _ rfl _ _ (by simp) (by omega)
  · exact ((((Fr.alloc _ _).trans (Fr.alloc _ _)).trans (Fr.alloc _ _)).trans (Fr.alloc _ _)).trans (Fr.alloc _ _)

set_option maxRecDepth 20000 in
set_option maxHeartbeats 1000000 in
theorem l6T_4 (fg fo fw fl fs ff ft : Int) (ao : Option Addr) (n c : Nat) (es : List Ev) (w : World) (hn : es.length = n) (h : ReadsE w ao es) (j : Nat) (hj : j < es.length) (hF : es[j] = ⟨4, fg, fo, fw, fl, fs, ff, ft⟩) :
    Calls Tryz.prog 163 #[.slice ao n c, .int .i64 j] w fun x w' => ∃ v, x = .returned v ∧ OwnG layT w' w.heap.size v [⟨1, fo, 0, true, false⟩] ∧ Fr w w' := by
  subst hn
  have hl := h.len
  obtain ⟨fb, off, rfl, hev⟩ := h.at_ j hj
  have HJ := hev j hj
  rw [hF] at HJ
  obtain ⟨d0, d1, d2, d3, d4, d5, d6, d7⟩ := HJ
  simp only at d0 d1 d2 d3 d4 d5 d6 d7
  have hjn : (j : Int) < es.length := by omega
  clear hev hF h
  go_enter Tryz.func163, Tryz.ntmps163
  go_wp2_with fail
  go_ret
  refine ⟨.slice (some ⟨w.heap.size + 1 + 1 + 1 + 1, 0, none⟩) 1 1, rfl, ?_, ?_⟩
  · exact ownG_litK layT _ [⟨1, fo, 0, true, false⟩] (by simp) _ rfl _ _ (by simp) (by omega)
  · exact ((((Fr.alloc _ _).trans (Fr.alloc _ _)).trans (Fr.alloc _ _)).trans (Fr.alloc _ _)).trans (Fr.alloc _ _)

set_option maxRecDepth 20000 in
set_option maxHeartbeats 1000000 in
theorem l6T_5 (fg fo fw fl fs ff ft : Int) (ao : Option Addr) (n c : Nat) (es : List Ev) (w : World) (hn : es.length = n) (h : ReadsE w ao es) (j : Nat) (hj : j < es.length) (hF : es[j] = ⟨5, fg, fo, fw, fl, fs, ff, ft⟩) :
    Calls Tryz.prog 163 #[.slice ao n c, .int .i64 j] w fun x w' => ∃ v, x = .returned v ∧ OwnG layT w' w.heap.size v [⟨2, fo, 0, false, true⟩] ∧ Fr w w' := by
  subst hn
  have hl := h.len
  obtain ⟨fb, off, rfl, hev⟩ := h.at_ j hj
  have HJ := hev j hj
  rw [hF] at HJ
  obtain ⟨d0, d1, d2, d3, d4, d5, d6, d7⟩ := HJ
  simp only at d0 d1 d2 d3 d4 d5 d6 d7
  have hjn : (j : Int) < es.length := by omega
  clear hev hF h
  go_enter Tryz.func163, Tryz.ntmps163
  go_wp2_with fail
  go_ret
  refine ⟨.slice (some ⟨w.heap.size + 1 + 1 + 1 + 1, 0, none⟩) 1 1, rfl, ?_, ?_⟩
  · exact ownG_litK layT _ [⟨2, fo, 0, false, true⟩] (by simp) _ rfl _ _ (by simp) (by omega)
  · exact ((((Fr.alloc _ _).trans (Fr.alloc _ _)).trans (Fr.alloc _ _)).trans (Fr.alloc _ _)).trans (Fr.alloc _ _)

set_option maxRecDepth 20000 in
set_option maxHeartbeats 1000000 in
theorem l6T_6 (fg fo fw fl fs ff ft : Int) (ao : Option Addr) (n c : Nat) (es : List Ev) (w : World) (hn : es.length = n) (h : ReadsE w ao es) (j : Nat) (hj : j < es.length) (hF : es[j] = ⟨6, fg, fo, fw, fl, fs, ff, ft⟩) :
    Calls Tryz.prog 163 #[.slice ao n c, .int .i64 j] w fun x w' => ∃ v, x = .returned v ∧ OwnG layT w' w.heap.size v [] ∧ Fr w w' := by
  subst hn
  have hl := h.len
  obtain ⟨fb, off, rfl, hev⟩ := h.at_ j hj
  have HJ := hev j hj
  rw [hF] at HJ
  obtain ⟨d0, d1, d2, d3, d4, d5, d6, d7⟩ := HJ
  simp only at d0 d1 d2 d3 d4 d5 d6 d7
  have hjn : (j : Int) < es.length := by omega
  clear hev hF h
  go_enter Tryz.func163, Tryz.ntmps163
  go_wp2_with fail
  go_ret
  refine ⟨.slice (some ⟨w.heap.size + 1 + 1 + 1 + 1, 0, none⟩) 0 0, rfl, ?_, ?_⟩
  · exact ownG_litK layT _ [] (by simp) _ rfl _ _ (by simp) (by omega)
  · exact ((((Fr.alloc _ _).trans (Fr.alloc _ _)).trans (Fr.alloc _ _)).trans (Fr.alloc _ _)).trans (Fr.alloc _ _)
end Go.Proofs.YthehhiccfnhinaaGreatDoor
/-
  The specification's touches, kind by kind (9, 10, 11, 12, 13, 14, 15).
-/
namespace Go.Proofs.YthehhiccfnhinaaGreatDoor
open Go.RowKit

set_option maxRecDepth 20000 in
set_option maxHeartbeats 1000000 in
theorem l6T_9 (fg fo fw fl fs ff ft : Int) (ao : Option Addr) (n c : Nat) (es : List Ev) (w : World) (hn : es.length = n) (h : ReadsE w ao es) (j : Nat) (hj : j < es.length) (hF : es[j] = ⟨9, fg, fo, fw, fl, fs, ff, ft⟩) :
    Calls Tryz.prog 163 #[.slice ao n c, .int .i64 j] w fun x w' => ∃ v, x = .returned v ∧ OwnG layT w' w.heap.size v [] ∧ Fr w w' := by
  subst hn
  have hl := h.len
  obtain ⟨fb, off, rfl, hev⟩ := h.at_ j hj
  have HJ := hev j hj
  rw [hF] at HJ
  obtain ⟨d0, d1, d2, d3, d4, d5, d6, d7⟩ := HJ
  simp only at d0 d1 d2 d3 d4 d5 d6 d7
  have hjn : (j : Int) < es.length := by omega
  clear hev hF h
  go_enter Tryz.func163, Tryz.ntmps163
  go_wp2_with fail
  go_ret
  refine ⟨.slice (some ⟨w.heap.size + 1 + 1 + 1 + 1, 0, none⟩) 0 0, rfl, ?_, ?_⟩
  · exact ownG_litK layT _ [] (by simp) _ rfl _ _ (by simp) (by omega)
  · exact ((((Fr.alloc _ _).trans (Fr.alloc _ _)).trans (Fr.alloc _ _)).trans (Fr.alloc _ _)).trans (Fr.alloc _ _)

set_option maxRecDepth 20000 in
set_option maxHeartbeats 1000000 in
theorem l6T_10 (fg fo fw fl fs ff ft : Int) (ao : Option Addr) (n c : Nat) (es : List Ev) (w : World) (hn : es.length = n) (h : ReadsE w ao es) (j : Nat) (hj : j < es.length) (hF : es[j] = ⟨10, fg, fo, fw, fl, fs, ff, ft⟩) :
    Calls Tryz.prog 163 #[.slice ao n c, .int .i64 j] w fun x w' => ∃ v, x = .returned v ∧ OwnG layT w' w.heap.size v [⟨4, fo, 0, false, true⟩] ∧ Fr w w' := by
  subst hn
  have hl := h.len
  obtain ⟨fb, off, rfl, hev⟩ := h.at_ j hj
  have HJ := hev j hj
  rw [hF] at HJ
  obtain ⟨d0, d1, d2, d3, d4, d5, d6, d7⟩ := HJ
  simp only at d0 d1 d2 d3 d4 d5 d6 d7
  have hjn : (j : Int) < es.length := by omega
  clear hev hF h
  go_enter Tryz.func163, Tryz.ntmps163
  go_wp2_with fail
  go_ret
  refine ⟨.slice (some ⟨w.heap.size + 1 + 1 + 1 + 1, 0, none⟩) 1 1, rfl, ?_, ?_⟩
  · exact ownG_litK layT _ [⟨4, fo, 0, false, true⟩] (by simp) _ rfl _ _ (by simp) (by omega)
  · exact ((((Fr.alloc _ _).trans (Fr.alloc _ _)).trans (Fr.alloc _ _)).trans (Fr.alloc _ _)).trans (Fr.alloc _ _)

set_option maxRecDepth 20000 in
set_option maxHeartbeats 1000000 in
theorem l6T_11 (fg fo fw fl fs ff ft : Int) (ao : Option Addr) (n c : Nat) (es : List Ev) (w : World) (hn : es.length = n) (h : ReadsE w ao es) (j : Nat) (hj : j < es.length) (hF : es[j] = ⟨11, fg, fo, fw, fl, fs, ff, ft⟩) :
    Calls Tryz.prog 163 #[.slice ao n c, .int .i64 j] w fun x w' => ∃ v, x = .returned v ∧ OwnG layT w' w.heap.size v [⟨4, fo, 0, true, false⟩] ∧ Fr w w' := by
  subst hn
  have hl := h.len
  obtain ⟨fb, off, rfl, hev⟩ := h.at_ j hj
  have HJ := hev j hj
  rw [hF] at HJ
  obtain ⟨d0, d1, d2, d3, d4, d5, d6, d7⟩ := HJ
  simp only at d0 d1 d2 d3 d4 d5 d6 d7
  have hjn : (j : Int) < es.length := by omega
  clear hev hF h
  go_enter Tryz.func163, Tryz.ntmps163
  go_wp2_with fail
  go_ret
  refine ⟨.slice (some ⟨w.heap.size + 1 + 1 + 1 + 1, 0, none⟩) 1 1, rfl, ?_, ?_⟩
  · exact ownG_litK layT _ [⟨4, fo, 0, true, false⟩] (by simp) _ rfl _ _ (by simp) (by omega)
  · exact ((((Fr.alloc _ _).trans (Fr.alloc _ _)).trans (Fr.alloc _ _)).trans (Fr.alloc _ _)).trans (Fr.alloc _ _)

set_option maxRecDepth 20000 in
set_option maxHeartbeats 1000000 in
theorem l6T_12 (fg fo fw fl fs ff ft : Int) (ao : Option Addr) (n c : Nat) (es : List Ev) (w : World) (hn : es.length = n) (h : ReadsE w ao es) (j : Nat) (hj : j < es.length) (hF : es[j] = ⟨12, fg, fo, fw, fl, fs, ff, ft⟩) :
    Calls Tryz.prog 163 #[.slice ao n c, .int .i64 j] w fun x w' => ∃ v, x = .returned v ∧ OwnG layT w' w.heap.size v [] ∧ Fr w w' := by
  subst hn
  have hl := h.len
  obtain ⟨fb, off, rfl, hev⟩ := h.at_ j hj
  have HJ := hev j hj
  rw [hF] at HJ
  obtain ⟨d0, d1, d2, d3, d4, d5, d6, d7⟩ := HJ
  simp only at d0 d1 d2 d3 d4 d5 d6 d7
  have hjn : (j : Int) < es.length := by omega
  clear hev hF h
  go_enter Tryz.func163, Tryz.ntmps163
  go_wp2_with fail
  go_ret
  refine ⟨.slice (some ⟨w.heap.size + 1 + 1 + 1 + 1, 0, none⟩) 0 0, rfl, ?_, ?_⟩
  · exact ownG_litK layT _ [] (by simp) _ rfl _ _ (by simp) (by omega)
  · exact ((((Fr.alloc _ _).trans (Fr.alloc _ _)).trans (Fr.alloc _ _)).trans (Fr.alloc _ _)).trans (Fr.alloc _ _)

set_option maxRecDepth 20000 in
set_option maxHeartbeats 1000000 in
theorem l6T_13 (fg fo fw fl fs ff ft : Int) (ao : Option Addr) (n c : Nat) (es : List Ev) (w : World) (hn : es.length = n) (h : ReadsE w ao es) (j : Nat) (hj : j < es.length) (hF : es[j] = ⟨13, fg, fo, fw, fl, fs, ff, ft⟩) :
    Calls Tryz.prog 163 #[.slice ao n c, .int .i64 j] w fun x w' => ∃ v, x = .returned v ∧ OwnG layT w' w.heap.size v [⟨5, fo, 0, false, true⟩] ∧ Fr w w' := by
  subst hn
  have hl := h.len
  obtain ⟨fb, off, rfl, hev⟩ := h.at_ j hj
  have HJ := hev j hj
  rw [hF] at HJ
  obtain ⟨d0, d1, d2, d3, d4, d5, d6, d7⟩ := HJ
  simp only at d0 d1 d2 d3 d4 d5 d6 d7
  have hjn : (j : Int) < es.length := by omega
  clear hev hF h
  go_enter Tryz.func163, Tryz.ntmps163
  go_wp2_with fail
  go_ret
  refine ⟨.slice (some ⟨w.heap.size + 1 + 1 + 1 + 1, 0, none⟩) 1 1, rfl, ?_, ?_⟩
  · exact ownG_litK layT _ [⟨5, fo, 0, false, true⟩] (by simp) _ rfl _ _ (by simp) (by omega)
  · exact ((((Fr.alloc _ _).trans (Fr.alloc _ _)).trans (Fr.alloc _ _)).trans (Fr.alloc _ _)).trans (Fr.alloc _ _)

set_option maxRecDepth 20000 in
set_option maxHeartbeats 1000000 in
theorem l6T_14 (fg fo fw fl fs ff ft : Int) (ao : Option Addr) (n c : Nat) (es : List Ev) (w : World) (hn : es.length = n) (h : ReadsE w ao es) (j : Nat) (hj : j < es.length) (hF : es[j] = ⟨14, fg, fo, fw, fl, fs, ff, ft⟩) :
    Calls Tryz.prog 163 #[.slice ao n c, .int .i64 j] w fun x w' => ∃ v, x = .returned v ∧ OwnG layT w' w.heap.size v [⟨5, fo, 0, true, false⟩] ∧ Fr w w' := by
  subst hn
  have hl := h.len
  obtain ⟨fb, off, rfl, hev⟩ := h.at_ j hj
  have HJ := hev j hj
  rw [hF] at HJ
  obtain ⟨d0, d1, d2, d3, d4, d5, d6, d7⟩ := HJ
  simp only at d0 d1 d2 d3 d4 d5 d6 d7
  have hjn : (j : Int) < es.length := by omega
  clear hev hF h
  go_enter Tryz.func163, Tryz.ntmps163
  go_wp2_with fail
  go_ret
  refine ⟨.slice (some ⟨w.heap.size + 1 + 1 + 1 + 1, 0, none⟩) 1 1, rfl, ?_, ?_⟩
  · exact ownG_litK layT _ [⟨5, fo, 0, true, false⟩] (by simp) _ rfl _ _ (by simp) (by omega)
  · exact ((((Fr.alloc _ _).trans (Fr.alloc _ _)).trans (Fr.alloc _ _)).trans (Fr.alloc _ _)).trans (Fr.alloc _ _)

set_option maxRecDepth 20000 in
set_option maxHeartbeats 1000000 in
theorem l6T_15 (fg fo fw fl fs ff ft : Int) (ao : Option Addr) (n c : Nat) (es : List Ev) (w : World) (hn : es.length = n) (h : ReadsE w ao es) (j : Nat) (hj : j < es.length) (hF : es[j] = ⟨15, fg, fo, fw, fl, fs, ff, ft⟩) :
    Calls Tryz.prog 163 #[.slice ao n c, .int .i64 j] w fun x w' => ∃ v, x = .returned v ∧ OwnG layT w' w.heap.size v [⟨6, fo, 0, false, true⟩] ∧ Fr w w' := by
  subst hn
  have hl := h.len
  obtain ⟨fb, off, rfl, hev⟩ := h.at_ j hj
  have HJ := hev j hj
  rw [hF] at HJ
  obtain ⟨d0, d1, d2, d3, d4, d5, d6, d7⟩ := HJ
  simp only at d0 d1 d2 d3 d4 d5 d6 d7
  have hjn : (j : Int) < es.length := by omega
  clear hev hF h
  go_enter Tryz.func163, Tryz.ntmps163
  go_wp2_with fail
  go_ret
  refine ⟨.slice (some ⟨w.heap.size + 1 + 1 + 1 + 1, 0, none⟩) 1 1, rfl, ?_, ?_⟩
  · exact ownG_litK layT _ [⟨6, fo, 0, false, true⟩] (by simp) _ rfl _ _ (by simp) (by omega)
  · exact ((((Fr.alloc _ _).trans (Fr.alloc _ _)).trans (Fr.alloc _ _)).trans (Fr.alloc _ _)).trans (Fr.alloc _ _)
end Go.Proofs.YthehhiccfnhinaaGreatDoor
/-
  The specification's touches, kind by kind (16, 17, 18, 19, 20, 21, 22).
-/
namespace Go.Proofs.YthehhiccfnhinaaGreatDoor
open Go.RowKit

set_option maxRecDepth 20000 in
set_option maxHeartbeats 1000000 in
theorem l6T_16 (fg fo fw fl fs ff ft : Int) (ao : Option Addr) (n c : Nat) (es : List Ev) (w : World) (hn : es.length = n) (h : ReadsE w ao es) (j : Nat) (hj : j < es.length) (hF : es[j] = ⟨16, fg, fo, fw, fl, fs, ff, ft⟩) :
    Calls Tryz.prog 163 #[.slice ao n c, .int .i64 j] w fun x w' => ∃ v, x = .returned v ∧ OwnG layT w' w.heap.size v [⟨6, fo, 0, true, false⟩] ∧ Fr w w' := by
  subst hn
  have hl := h.len
  obtain ⟨fb, off, rfl, hev⟩ := h.at_ j hj
  have HJ := hev j hj
  rw [hF] at HJ
  obtain ⟨d0, d1, d2, d3, d4, d5, d6, d7⟩ := HJ
  simp only at d0 d1 d2 d3 d4 d5 d6 d7
  have hjn : (j : Int) < es.length := by omega
  clear hev hF h
  go_enter Tryz.func163, Tryz.ntmps163
  go_wp2_with fail
  go_ret
  refine ⟨.slice (some ⟨w.heap.size + 1 + 1 + 1 + 1, 0, none⟩) 1 1, rfl, ?_, ?_⟩
  · exact ownG_litK layT _ [⟨6, fo, 0, true, false⟩] (by simp) _ rfl _ _ (by simp) (by omega)
  · exact ((((Fr.alloc _ _).trans (Fr.alloc _ _)).trans (Fr.alloc _ _)).trans (Fr.alloc _ _)).trans (Fr.alloc _ _)

set_option maxRecDepth 20000 in
set_option maxHeartbeats 1000000 in
theorem l6T_17 (fg fo fw fl fs ff ft : Int) (ao : Option Addr) (n c : Nat) (es : List Ev) (w : World) (hn : es.length = n) (h : ReadsE w ao es) (j : Nat) (hj : j < es.length) (hF : es[j] = ⟨17, fg, fo, fw, fl, fs, ff, ft⟩) :
    Calls Tryz.prog 163 #[.slice ao n c, .int .i64 j] w fun x w' => ∃ v, x = .returned v ∧ OwnG layT w' w.heap.size v [⟨7, fo, 0, true, false⟩] ∧ Fr w w' := by
  subst hn
  have hl := h.len
  obtain ⟨fb, off, rfl, hev⟩ := h.at_ j hj
  have HJ := hev j hj
  rw [hF] at HJ
  obtain ⟨d0, d1, d2, d3, d4, d5, d6, d7⟩ := HJ
  simp only at d0 d1 d2 d3 d4 d5 d6 d7
  have hjn : (j : Int) < es.length := by omega
  clear hev hF h
  go_enter Tryz.func163, Tryz.ntmps163
  go_wp2_with fail
  go_ret
  refine ⟨.slice (some ⟨w.heap.size + 1 + 1 + 1 + 1, 0, none⟩) 1 1, rfl, ?_, ?_⟩
  · exact ownG_litK layT _ [⟨7, fo, 0, true, false⟩] (by simp) _ rfl _ _ (by simp) (by omega)
  · exact ((((Fr.alloc _ _).trans (Fr.alloc _ _)).trans (Fr.alloc _ _)).trans (Fr.alloc _ _)).trans (Fr.alloc _ _)

set_option maxRecDepth 20000 in
set_option maxHeartbeats 1000000 in
theorem l6T_18 (fg fo fw fl fs ff ft : Int) (ao : Option Addr) (n c : Nat) (es : List Ev) (w : World) (hn : es.length = n) (h : ReadsE w ao es) (j : Nat) (hj : j < es.length) (hF : es[j] = ⟨18, fg, fo, fw, fl, fs, ff, ft⟩) :
    Calls Tryz.prog 163 #[.slice ao n c, .int .i64 j] w fun x w' => ∃ v, x = .returned v ∧ OwnG layT w' w.heap.size v [⟨7, fo, 0, false, true⟩] ∧ Fr w w' := by
  subst hn
  have hl := h.len
  obtain ⟨fb, off, rfl, hev⟩ := h.at_ j hj
  have HJ := hev j hj
  rw [hF] at HJ
  obtain ⟨d0, d1, d2, d3, d4, d5, d6, d7⟩ := HJ
  simp only at d0 d1 d2 d3 d4 d5 d6 d7
  have hjn : (j : Int) < es.length := by omega
  clear hev hF h
  go_enter Tryz.func163, Tryz.ntmps163
  go_wp2_with fail
  go_ret
  refine ⟨.slice (some ⟨w.heap.size + 1 + 1 + 1 + 1, 0, none⟩) 1 1, rfl, ?_, ?_⟩
  · exact ownG_litK layT _ [⟨7, fo, 0, false, true⟩] (by simp) _ rfl _ _ (by simp) (by omega)
  · exact ((((Fr.alloc _ _).trans (Fr.alloc _ _)).trans (Fr.alloc _ _)).trans (Fr.alloc _ _)).trans (Fr.alloc _ _)

set_option maxRecDepth 20000 in
set_option maxHeartbeats 1000000 in
theorem l6T_19 (fg fo fw fl fs ff ft : Int) (ao : Option Addr) (n c : Nat) (es : List Ev) (w : World) (hn : es.length = n) (h : ReadsE w ao es) (j : Nat) (hj : j < es.length) (hF : es[j] = ⟨19, fg, fo, fw, fl, fs, ff, ft⟩) :
    Calls Tryz.prog 163 #[.slice ao n c, .int .i64 j] w fun x w' => ∃ v, x = .returned v ∧ OwnG layT w' w.heap.size v [⟨7, fo, 0, true, true⟩] ∧ Fr w w' := by
  subst hn
  have hl := h.len
  obtain ⟨fb, off, rfl, hev⟩ := h.at_ j hj
  have HJ := hev j hj
  rw [hF] at HJ
  obtain ⟨d0, d1, d2, d3, d4, d5, d6, d7⟩ := HJ
  simp only at d0 d1 d2 d3 d4 d5 d6 d7
  have hjn : (j : Int) < es.length := by omega
  clear hev hF h
  go_enter Tryz.func163, Tryz.ntmps163
  go_wp2_with fail
  go_ret
  refine ⟨.slice (some ⟨w.heap.size + 1 + 1 + 1 + 1, 0, none⟩) 1 1, rfl, ?_, ?_⟩
  · exact ownG_litK layT _ [⟨7, fo, 0, true, true⟩] (by simp) _ rfl _ _ (by simp) (by omega)
  · exact ((((Fr.alloc _ _).trans (Fr.alloc _ _)).trans (Fr.alloc _ _)).trans (Fr.alloc _ _)).trans (Fr.alloc _ _)

set_option maxRecDepth 20000 in
set_option maxHeartbeats 1000000 in
theorem l6T_20 (fg fo fw fl fs ff ft : Int) (ao : Option Addr) (n c : Nat) (es : List Ev) (w : World) (hn : es.length = n) (h : ReadsE w ao es) (j : Nat) (hj : j < es.length) (hF : es[j] = ⟨20, fg, fo, fw, fl, fs, ff, ft⟩) :
    Calls Tryz.prog 163 #[.slice ao n c, .int .i64 j] w fun x w' => ∃ v, x = .returned v ∧ OwnG layT w' w.heap.size v [] ∧ Fr w w' := by
  subst hn
  have hl := h.len
  obtain ⟨fb, off, rfl, hev⟩ := h.at_ j hj
  have HJ := hev j hj
  rw [hF] at HJ
  obtain ⟨d0, d1, d2, d3, d4, d5, d6, d7⟩ := HJ
  simp only at d0 d1 d2 d3 d4 d5 d6 d7
  have hjn : (j : Int) < es.length := by omega
  clear hev hF h
  go_enter Tryz.func163, Tryz.ntmps163
  go_wp2_with fail
  go_ret
  refine ⟨.slice (some ⟨w.heap.size + 1 + 1 + 1 + 1, 0, none⟩) 0 0, rfl, ?_, ?_⟩
  · exact ownG_litK layT _ [] (by simp) _ rfl _ _ (by simp) (by omega)
  · exact ((((Fr.alloc _ _).trans (Fr.alloc _ _)).trans (Fr.alloc _ _)).trans (Fr.alloc _ _)).trans (Fr.alloc _ _)

set_option maxRecDepth 20000 in
set_option maxHeartbeats 1000000 in
theorem l6T_21 (fg fo fw fl fs ff ft : Int) (ao : Option Addr) (n c : Nat) (es : List Ev) (w : World) (hn : es.length = n) (h : ReadsE w ao es) (j : Nat) (hj : j < es.length) (hF : es[j] = ⟨21, fg, fo, fw, fl, fs, ff, ft⟩) :
    Calls Tryz.prog 163 #[.slice ao n c, .int .i64 j] w fun x w' => ∃ v, x = .returned v ∧ OwnG layT w' w.heap.size v [] ∧ Fr w w' := by
  subst hn
  have hl := h.len
  obtain ⟨fb, off, rfl, hev⟩ := h.at_ j hj
  have HJ := hev j hj
  rw [hF] at HJ
  obtain ⟨d0, d1, d2, d3, d4, d5, d6, d7⟩ := HJ
  simp only at d0 d1 d2 d3 d4 d5 d6 d7
  have hjn : (j : Int) < es.length := by omega
  clear hev hF h
  go_enter Tryz.func163, Tryz.ntmps163
  go_wp2_with fail
  go_ret
  refine ⟨.slice (some ⟨w.heap.size + 1 + 1 + 1 + 1, 0, none⟩) 0 0, rfl, ?_, ?_⟩
  · exact ownG_litK layT _ [] (by simp) _ rfl _ _ (by simp) (by omega)
  · exact ((((Fr.alloc _ _).trans (Fr.alloc _ _)).trans (Fr.alloc _ _)).trans (Fr.alloc _ _)).trans (Fr.alloc _ _)

set_option maxRecDepth 20000 in
set_option maxHeartbeats 1000000 in
theorem l6T_22 (fg fo fw fl fs ff ft : Int) (ao : Option Addr) (n c : Nat) (es : List Ev) (w : World) (hn : es.length = n) (h : ReadsE w ao es) (j : Nat) (hj : j < es.length) (hF : es[j] = ⟨22, fg, fo, fw, fl, fs, ff, ft⟩) :
    Calls Tryz.prog 163 #[.slice ao n c, .int .i64 j] w fun x w' => ∃ v, x = .returned v ∧ OwnG layT w' w.heap.size v [] ∧ Fr w w' := by
  subst hn
  have hl := h.len
  obtain ⟨fb, off, rfl, hev⟩ := h.at_ j hj
  have HJ := hev j hj
  rw [hF] at HJ
  obtain ⟨d0, d1, d2, d3, d4, d5, d6, d7⟩ := HJ
  simp only at d0 d1 d2 d3 d4 d5 d6 d7
  have hjn : (j : Int) < es.length := by omega
  clear hev hF h
  go_enter Tryz.func163, Tryz.ntmps163
  go_wp2_with fail
  go_ret
  refine ⟨.slice (some ⟨w.heap.size + 1 + 1 + 1 + 1, 0, none⟩) 0 0, rfl, ?_, ?_⟩
  · exact ownG_litK layT _ [] (by simp) _ rfl _ _ (by simp) (by omega)
  · exact ((((Fr.alloc _ _).trans (Fr.alloc _ _)).trans (Fr.alloc _ _)).trans (Fr.alloc _ _)).trans (Fr.alloc _ _)
end Go.Proofs.YthehhiccfnhinaaGreatDoor
/-
  The specification's touches, kind by kind (7, 8).
-/
namespace Go.Proofs.YthehhiccfnhinaaGreatDoor
open Go.RowKit

/-- A touch in a block of its own. -/
def TchK (w : World) (b : Nat) (c : Tch) : Prop := w.heap[b]? = some (.cells #[.int .i64 c.sp, .int .i64 c.ob, .int .i64 c.sl, .bool c.tk, .bool c.gv] 225 (0, 0))
theorem TchK.lt {w : World} {b : Nat} {c : Tch} (h : TchK w b c) : b < w.heap.size := (Array.getElem?_eq_some_iff.1 h).1
theorem TchK.fr {w w' : World} {b : Nat} {c : Tch} (h : TchK w b c) (k : Fr w w') : TchK w' b c := (k.block b h.lt (by simp)).trans h
theorem TchK.free {w : World} {b : Nat} {c : Tch} (h : TchK w b c) (i : Nat) : w.frozen? ⟨b, i, none⟩ = false := frozen_of_row w b i _ _ h
theorem TchK.at {w : World} {b : Nat} {c : Tch} (h : TchK w b c) : w.cell? ⟨b, 0, none⟩ = some (.int .i64 c.sp) ∧ w.cell? ⟨b, 1, none⟩ = some (.int .i64 c.ob) ∧ w.cell? ⟨b, 2, none⟩ = some (.int .i64 c.sl) ∧ w.cell? ⟨b, 3, none⟩ = some (.bool c.tk) ∧ w.cell? ⟨b, 4, none⟩ = some (.bool c.gv) :=
  ⟨cell_of_row w b 0 _ _ _ h, cell_of_row w b 1 _ _ _ h, cell_of_row w b 2 _ _ _ h, cell_of_row w b 3 _ _ _ h, cell_of_row w b 4 _ _ _ h⟩

set_option maxRecDepth 20000 in
set_option maxHeartbeats 1000000 in
theorem l6T_7 (fg fo fw fl fs ff ft : Int) (ao : Option Addr) (n c : Nat) (es : List Ev) (w : World) (hn : es.length = n) (h : ReadsE w ao es) (j : Nat) (hj : j < es.length) (hF : es[j] = ⟨7, fg, fo, fw, fl, fs, ff, ft⟩) (hr : capK es[j].o (es.take j) ≠ 0) :
    Calls Tryz.prog 163 #[.slice ao n c, .int .i64 j] w fun x w' => ∃ v, x = .returned v ∧ OwnG layT w' w.heap.size v [⟨3, fo, slotE (es.take j) es[j], true, true⟩] ∧ Fr w w' := by
  have cS := fun u (f : Fr w u) => l6Slot_any ao n c es u hn (h.fr f) j hj hr
  obtain ⟨Z, hZ⟩ : ∃ Z, Z = slotE (es.take j) es[j] := ⟨_, rfl⟩
  simp only [← hZ] at cS ⊢
  clear hZ hr
  subst hn
  have hl := h.len
  obtain ⟨fb, off, rfl, hev⟩ := h.at_ j hj
  have HJ := hev j hj
  rw [hF] at HJ
  obtain ⟨d0, d1, d2, d3, d4, d5, d6, d7⟩ := HJ
  simp only at d0 d1 d2 d3 d4 d5 d6 d7
  have hjn : (j : Int) < es.length := by omega
  clear hev hF h
  have f1 : Fr w ((((w.alloc (.cells #[.int .i64 7, .int .i64 fg, .int .i64 fo, .int .i64 fw, .int .i64 fl, .int .i64 fs, .int .i64 ff, .int .i64 ft] 31)).alloc (.cells #[.int .i64 0, .int .i64 fo, .int .i64 0, .bool true, .bool false] 225)).alloc (.cells #[.int .i64 0, .int .i64 fo, .int .i64 0, .bool false, .bool true] 225)).alloc (.cells #[.int .i64 3, .int .i64 fo, .int .i64 0, .bool true, .bool true] 225)) := (((Fr.alloc _ _).trans (Fr.alloc _ _)).trans (Fr.alloc _ _)).trans (Fr.alloc _ _)
  have hK : TchK ((((w.alloc (.cells #[.int .i64 7, .int .i64 fg, .int .i64 fo, .int .i64 fw, .int .i64 fl, .int .i64 fs, .int .i64 ff, .int .i64 ft] 31)).alloc (.cells #[.int .i64 0, .int .i64 fo, .int .i64 0, .bool true, .bool false] 225)).alloc (.cells #[.int .i64 0, .int .i64 fo, .int .i64 0, .bool false, .bool true] 225)).alloc (.cells #[.int .i64 3, .int .i64 fo, .int .i64 0, .bool true, .bool true] 225)) (w.heap.size + 1 + 1 + 1) ⟨3, fo, 0, true, true⟩ := by
    have := heap_alloc_new (((w.alloc (.cells #[.int .i64 7, .int .i64 fg, .int .i64 fo, .int .i64 fw, .int .i64 fl, .int .i64 fs, .int .i64 ff, .int .i64 ft] 31)).alloc (.cells #[.int .i64 0, .int .i64 fo, .int .i64 0, .bool true, .bool false] 225)).alloc (.cells #[.int .i64 0, .int .i64 fo, .int .i64 0, .bool false, .bool true] 225)) (.cells #[.int .i64 3, .int .i64 fo, .int .i64 0, .bool true, .bool true] 225)
    simpa [TchK] using this
  go_enter Tryz.func163, Tryz.ntmps163
  go_wp2_with fail
  refine (cS _ f1).mono ?_
  rintro x u2 ⟨rfl, f2⟩
  have hK2 := hK.fr f2
  obtain ⟨t0, t1, t2, t3, t4⟩ := hK2.at
  simp only at t0 t1 t2 t3 t4
  have tf := hK2.free 2
  have F2 := f1.trans f2
  have sz := f2.size
  simp at sz
  go_wp2_with fail
  go_ret
  refine ⟨.slice (some ⟨u2.heap.size, 0, none⟩) 1 1, rfl, ?_, ?_⟩
  · exact ownG_litK layT _ [⟨3, fo, Z, true, true⟩] (by simp) _ rfl _ _ (by simp) (by omega)
  · exact (F2.then (grown_set u2 (w.heap.size + 1 + 1 + 1) 2 (.int .i64 Z)) (fun j hj => by simp only [Option.some.injEq] at hj; omega)).trans (Fr.alloc _ _)

set_option maxRecDepth 20000 in
set_option maxHeartbeats 1000000 in
theorem l6T_8 (fg fo fw fl fs ff ft : Int) (ao : Option Addr) (n c : Nat) (es : List Ev) (w : World) (hn : es.length = n) (h : ReadsE w ao es) (j : Nat) (hj : j < es.length) (hF : es[j] = ⟨8, fg, fo, fw, fl, fs, ff, ft⟩) (hr : capK es[j].o (es.take j) ≠ 0) :
    Calls Tryz.prog 163 #[.slice ao n c, .int .i64 j] w fun x w' => ∃ v, x = .returned v ∧ OwnG layT w' w.heap.size v [⟨3, fo, slotE (es.take j) es[j], true, true⟩] ∧ Fr w w' := by
  have cS := fun u (f : Fr w u) => l6Slot_any ao n c es u hn (h.fr f) j hj hr
  obtain ⟨Z, hZ⟩ : ∃ Z, Z = slotE (es.take j) es[j] := ⟨_, rfl⟩
  simp only [← hZ] at cS ⊢
  clear hZ hr
  subst hn
  have hl := h.len
  obtain ⟨fb, off, rfl, hev⟩ := h.at_ j hj
  have HJ := hev j hj
  rw [hF] at HJ
  obtain ⟨d0, d1, d2, d3, d4, d5, d6, d7⟩ := HJ
  simp only at d0 d1 d2 d3 d4 d5 d6 d7
  have hjn : (j : Int) < es.length := by omega
  clear hev hF h
  have f1 : Fr w ((((w.alloc (.cells #[.int .i64 8, .int .i64 fg, .int .i64 fo, .int .i64 fw, .int .i64 fl, .int .i64 fs, .int .i64 ff, .int .i64 ft] 31)).alloc (.cells #[.int .i64 0, .int .i64 fo, .int .i64 0, .bool true, .bool false] 225)).alloc (.cells #[.int .i64 0, .int .i64 fo, .int .i64 0, .bool false, .bool true] 225)).alloc (.cells #[.int .i64 3, .int .i64 fo, .int .i64 0, .bool true, .bool true] 225)) := (((Fr.alloc _ _).trans (Fr.alloc _ _)).trans (Fr.alloc _ _)).trans (Fr.alloc _ _)
  have hK : TchK ((((w.alloc (.cells #[.int .i64 8, .int .i64 fg, .int .i64 fo, .int .i64 fw, .int .i64 fl, .int .i64 fs, .int .i64 ff, .int .i64 ft] 31)).alloc (.cells #[.int .i64 0, .int .i64 fo, .int .i64 0, .bool true, .bool false] 225)).alloc (.cells #[.int .i64 0, .int .i64 fo, .int .i64 0, .bool false, .bool true] 225)).alloc (.cells #[.int .i64 3, .int .i64 fo, .int .i64 0, .bool true, .bool true] 225)) (w.heap.size + 1 + 1 + 1) ⟨3, fo, 0, true, true⟩ := by
    have := heap_alloc_new (((w.alloc (.cells #[.int .i64 8, .int .i64 fg, .int .i64 fo, .int .i64 fw, .int .i64 fl, .int .i64 fs, .int .i64 ff, .int .i64 ft] 31)).alloc (.cells #[.int .i64 0, .int .i64 fo, .int .i64 0, .bool true, .bool false] 225)).alloc (.cells #[.int .i64 0, .int .i64 fo, .int .i64 0, .bool false, .bool true] 225)) (.cells #[.int .i64 3, .int .i64 fo, .int .i64 0, .bool true, .bool true] 225)
    simpa [TchK] using this
  go_enter Tryz.func163, Tryz.ntmps163
  go_wp2_with fail
  refine (cS _ f1).mono ?_
  rintro x u2 ⟨rfl, f2⟩
  have hK2 := hK.fr f2
  obtain ⟨t0, t1, t2, t3, t4⟩ := hK2.at
  simp only at t0 t1 t2 t3 t4
  have tf := hK2.free 2
  have F2 := f1.trans f2
  have sz := f2.size
  simp at sz
  go_wp2_with fail
  go_ret
  refine ⟨.slice (some ⟨u2.heap.size, 0, none⟩) 1 1, rfl, ?_, ?_⟩
  · exact ownG_litK layT _ [⟨3, fo, Z, true, true⟩] (by simp) _ rfl _ _ (by simp) (by omega)
  · exact (F2.then (grown_set u2 (w.heap.size + 1 + 1 + 1) 2 (.int .i64 Z)) (fun j hj => by simp only [Option.some.injEq] at hj; omega)).trans (Fr.alloc _ _)
end Go.Proofs.YthehhiccfnhinaaGreatDoor
/-
  Maps from numbers: a block that holds a function.
-/
namespace Go.Proofs.YthehhiccfnhinaaGreatDoor
open Go.RowKit

/-- An element's value reads as itself. -/
def asIs (v : Value) : Option (DataW Value × List MemPlace) := some (.held v, [])
theorem keyed64 : Maps.Keyed Tryz.prog 2 := Maps.int_keyed Tryz.underlying2
/-- Block b is a map of at most n entries that holds f. -/
def MapF (w : World) (b n : Nat) (f : Int → Option Value) : Prop :=
  ∃ D : DataW Value, w.ownsMap Tryz.prog 2 asIs b n D ∧ ∀ i z, D.atKey (.int .i64 i) z = ((f i).map DataW.held).getD z

theorem lit64 {i : Int} (h : I64 i) : (Lit.int .i64 i).wf = true := by
  obtain ⟨h1, h2⟩ := h
  simp [Lit.wf, IntKind.min, IntKind.max, IntKind.signed, IntKind.bits]
  omega
theorem MapF.made (w : World) : MapF (w.alloc (.map #[] 0)) w.heap.size 0 (fun _ => none) :=
  ⟨.map [], World.ownsMap_made w _ _ _, fun _ _ => rfl⟩
theorem MapF.keep {w w' : World} {b n : Nat} {f : Int → Option Value} {row : Option Nat} (h : MapF w b n f) (k : w.grownBy w' row) (hr : some b ≠ row) : MapF w' b n f := by
  obtain ⟨D, h1, h2⟩ := h
  exact ⟨D, h1.kept k hr, h2⟩
theorem MapF.fr {w w' : World} {b n : Nat} {f : Int → Option Value} (h : MapF w b n f) (k : Fr w w') : MapF w' b n f := h.keep k (by simp)
theorem MapF.lt {w : World} {b n : Nat} {f : Int → Option Value} (h : MapF w b n f) : b < w.heap.size := by
  obtain ⟨D, h1, _⟩ := h
  exact h1.lt
theorem mapF_has {f : Int → Option Value} {D : DataW Value} (h : ∀ i z, D.atKey (.int .i64 i) z = ((f i).map DataW.held).getD z) (i : Int) : Maps.has D (.int .i64 i) = (f i).isSome := by
  cases hf : f i with
  | none => exact Maps.has_false_of_atKey fun z => by rw [h i z, hf]; rfl
  | some v => exact Maps.has_true_of_atKey (y := .held v) fun z => by rw [h i z, hf]; rfl
/-- 'v, ok := m[i]'. -/
theorem MapF.look_ok {w : World} {b n : Nat} {f : Int → Option Value} (h : MapF w b n f) {t e : TypeId} (ht : Tryz.prog.underlying t = some (.map 2 e)) {z : Value} (hz : (zeroValue e).run Tryz.prog w = .ok z w) {i : Int} (hi : I64 i) :
    (Instr.lookup t (.map (some b)) (.int .i64 i) true).run Tryz.prog w = .ok (.tuple #[(f i).getD z, .bool (f i).isSome]) w := by
  obtain ⟨D, h1, h2⟩ := h
  obtain ⟨v, ps, hrun, hv⟩ := h1.look_ok keyed64 ht hz (zd := .held z) (zp := []) rfl (Maps.keyOf_int_mk Tryz.underlying2 (lit64 hi))
  rw [mapF_has h2] at hrun
  simp only [asIs, Option.some.injEq, Prod.mk.injEq] at hv
  have hv := hv.1
  rw [h2] at hv
  have : v = (f i).getD z := by
    cases hf : f i with
    | none => rw [hf] at hv; simpa using hv
    | some u => rw [hf] at hv; simpa using hv
  rw [hrun, this]
/-- 'm[i]'. -/
theorem MapF.look {w : World} {b n : Nat} {f : Int → Option Value} (h : MapF w b n f) {t e : TypeId} (ht : Tryz.prog.underlying t = some (.map 2 e)) {z : Value} (hz : (zeroValue e).run Tryz.prog w = .ok z w) {i : Int} (hi : I64 i) :
    (Instr.lookup t (.map (some b)) (.int .i64 i) false).run Tryz.prog w = .ok ((f i).getD z) w := by
  obtain ⟨D, h1, h2⟩ := h
  obtain ⟨v, ps, hrun, hv⟩ := h1.lookup keyed64 ht hz (zd := .held z) (zp := []) rfl (Maps.keyOf_int_mk Tryz.underlying2 (lit64 hi))
  simp only [asIs, Option.some.injEq, Prod.mk.injEq] at hv
  have hv := hv.1
  rw [h2] at hv
  have : v = (f i).getD z := by
    cases hf : f i with
    | none => rw [hf] at hv; simpa using hv
    | some u => rw [hf] at hv; simpa using hv
  rw [hrun, this]
/-- f with v at i. -/
def putM (f : Int → Option Value) (i : Int) (v : Value) : Int → Option Value := fun j => if j = i then some v else f j
/-- 'm[i] = v'. -/
theorem MapF.put {w : World} {b n : Nat} {f : Int → Option Value} (h : MapF w b n f) {t e : TypeId} (ht : Tryz.prog.underlying t = some (.map 2 e)) (hn : n < maxLen) {i : Int} (hi : I64 i) (v : Value) :
    ∃ w', (Instr.mapUpdate t (.map (some b)) (.int .i64 i) v).run Tryz.prog w = .ok () w' ∧ MapF w' b (n + 1) (putM f i v) ∧ w.grownBy w' (some b) := by
  obtain ⟨D, h1, h2⟩ := h
  obtain ⟨w', hrun, h3, h4⟩ := h1.update keyed64 ht hn (Maps.keyOf_int_mk Tryz.underlying2 (lit64 hi)) (val := v) (d := .held v) (ps := []) rfl
  refine ⟨w', hrun, ⟨_, h3, fun j z => ?_⟩, h4⟩
  unfold putM
  by_cases e : j = i
  · subst e
    rw [if_pos rfl, Maps.atKey_put_same h1.isMap (keyed64.key (Maps.keyOf_int_mk Tryz.underlying2 (lit64 hi)))]
    rfl
  · rw [if_neg e, Maps.atKey_put_other (by simpa using e), h2]
/-- 'm[i] = v' at the operation. -/
theorem wp_put {w : World} {ops : Array Oper} {rest : List Oper} {o : Oper} {a : Act} {Q : Exit → Act → World → Prop} (hg : o.guard = none) (m x u : Operand) (t : TypeId) (hop : o.op = Op.mapUpdate t m x u)
    {e : TypeId} (ht : Tryz.prog.underlying t = some (.map 2 e)) (b n : Nat) (f : Int → Option Value) (i : Int) (v : Value) (hm : a.eval m = .map (some b)) (hx : a.eval x = .int .i64 i) (hu : a.eval u = v) (h : MapF w b n f) (hn : n < maxLen) (hi : I64 i)
    (hK : ∀ w', MapF w' b (n + 1) (putM f i v) → w.grownBy w' (some b) → wpList Tryz.prog ops Q rest (a.put o.dst undef) w') : wpList Tryz.prog ops Q (o :: rest) a w := by
  refine wpList_plain hg fun K' hK' => ?_
  obtain ⟨w', hrun, r1, r2⟩ := h.put ht hn hi v
  unfold Oper.wp
  simp [execOp, hop, hm, hx, hu, hrun, Result.andThen]
  exact hK' _ _ (hK w' r1 r2)
end Go.Proofs.YthehhiccfnhinaaGreatDoor
