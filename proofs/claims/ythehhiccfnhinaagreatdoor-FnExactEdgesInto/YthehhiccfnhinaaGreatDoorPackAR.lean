/-
  inOrder: a board's map as a list, by rising numbers.
-/
import Derived.Test.YthehhiccfnhinaaGreatDoorPackAQ
import Derived.Test.YthehhiccfnhinaaGreatDoorPackAN
import Derived.Test.YthehhiccfnhinaaGreatDoorPackAA
import Derived.Maps.AppendAt
import Derived.Test.YthehhiccfnhinaaGreatDoorPackAM
import Derived.Test.YthehhiccfnhinaaGreatDoorPackAC
namespace Go.Proofs.YthehhiccfnhinaaGreatDoor
open Go.RowKit


theorem appC2 (w : World) {ops : Array Oper} {rest : List Oper} {o : Oper} {a : Act} {Q : Exit → Act → World → Prop} (hgd : o.guard = none) (s x : Operand)
    (ho : o.op = .call { callee := .builtin .append, args := #[s, x], argTypes := #[25, 25] }) (base : Nat) (v : Value) (xs : List Ch) (e : Ch) (hs : a.eval s = v)
    (hown : OwnG layC w base v xs) (hx : a.eval x = .slice (some ⟨w.heap.size, 0, none⟩) 1 1) (hlen : xs.length ≤ 16777215) (hbase : base ≤ w.heap.size)
    (h : ∀ v' w', OwnG layC w' base v' (xs ++ [e]) → (w.alloc (.cells #[.int .i64 e.o, .int .i64 e.cap, .int .i64 e.sent, .int .i64 e.got, .bool e.cl] 85)).grownBy w' v.ownBlock → (v'.ownBlock = v.ownBlock ∨ v'.ownBlock = some (w.heap.size + 1)) → wpList Tryz.prog ops Q rest (a.put o.dst v') w') :
    wpList Tryz.prog ops Q (o :: rest) a (w.alloc (.cells #[.int .i64 e.o, .int .i64 e.cap, .int .i64 e.sent, .int .i64 e.got, .bool e.cl] 85)) :=
  appG layC _ hgd s x _ _ _ ho Tryz.underlying25 Tryz.infoC rfl (by decide) base v xs e hs (hown.fr (Fr.alloc _ _)) _ _ hx (newC w e) hlen (Nat.le_trans hbase (Fr.alloc w _).size) (fun v' w' a b c => h v' w' a b (by simpa using c))

set_option maxRecDepth 20000 in
set_option maxHeartbeats 2000000 in
theorem ordC_any (mb n : Nat) (f : Int → Option Value) (xs : List Ch) (w : World) (M : MapF w mb n f) (hr : (xs.map Ch.o).Pairwise (· < ·)) (hk : ∀ o, o ∈ xs.map Ch.o ↔ (f o).isSome = true) (hv : ∀ j (hj : j < xs.length), f (Ch.o xs[j]) = some (valC xs[j])) (hi : ∀ o ∈ xs.map Ch.o, I64 o) (hn : n ≤ 4000000) (hl : xs.length ≤ 1048576) :
    Calls Tryz.prog 116 #[.map (some mb)] w fun e w' => ∃ v, e = .returned v ∧ OwnG layC w' w.heap.size v xs ∧ Fr w w' := by
  have fE := Fr.alloc w (.cells #[] 85)
  have cK := keysC_any mb (w.alloc (.cells #[] 85))
  have cS := sortedC_any mb n f (xs.map Ch.o) (w.alloc (.cells #[] 85)) (M.fr fE) hr hk hi hn
  have hL : ∀ j (hj : j < xs.length) u, Fr w u → (Instr.lookup 144 (.map (some mb)) (.int .i64 (Ch.o xs[j])) false).run Tryz.prog u = .ok (valC xs[j]) u := fun j hj u fu => by
    rw [(M.fr fu).look Tryz.underlying144 (zeroC u) (hi _ (List.mem_map_of_mem (List.getElem_mem hj))), hv j hj]
    rfl
  have hlen : (xs.map Ch.o).length = xs.length := by simp
  rw [hlen] at cS
  simp only [World.size_alloc] at cS
  have HO : Hid (OwnG layC (w.alloc (.cells #[] 85)) w.heap.size (.slice (some ⟨w.heap.size, 0, none⟩) 0 0) []) := ownG_new layC w _ (Nat.le_refl _)
  clear M hr hk hv hi hlen
  go_enter Tryz.func116, Tryz.ntmps116
  go_wp2_with fail
  refine cK.mono ?_
  rintro e w1 ⟨rfl, rfl⟩
  clear cK
  go_wp2_with fail
  refine cS.mono ?_
  rintro e w2 ⟨ao, cap, rfl, R, hab, f2⟩
  clear cS
  have F2 := fE.trans f2
  have HO : Hid (OwnG layC w2 w.heap.size (.slice (some ⟨w.heap.size, 0, none⟩) 0 0) []) := HO.out.fr f2
  clear fE f2
  go_wp2_with fail
  go_loopw [3, 11] (fun u i wr => ∃ k : Nat, k ≤ xs.length ∧ i = .int .i64 k ∧ OwnG layC wr w.heap.size u (xs.take k) ∧ Fr w wr ∧ Reads wr ao (xs.map Ch.o) ∧ Hid ((∀ j, u.ownBlock = some j → blk ao ≠ some j) ∧ w2.heap.size ≤ wr.heap.size)) (fun _ i _ => xs.length - (intOf i).toNat)
  case atStart => exact ⟨0, Nat.zero_le _, rfl, HO.out, F2, R, ⟨fun j hj q => by have := (hab j q).1; simp only [Value.ownBlock, Option.some.injEq] at hj; omega, Nat.le_refl _⟩⟩
  case round =>
    clear HO
    obtain ⟨k, hk, rfl, ho, hf, R, HU⟩ := hrel
    have hs := hf.size
    by_cases hlt : k < xs.length
    · have Rk := R
      obtain ⟨b, off, rfl, hc⟩ := Rk.at_ k (by simpa using hlt)
      have hck := hc k (by simpa using hlt)
      rw [getD_at (by simpa using hlt), List.getElem_map] at hck
      clear hc Rk
      have hLk := hL k hlt wr hf
      have HS : Hid (xs.take (k + 1) = xs.take k ++ [xs[k]]) := List.take_succ_eq_append_getElem hlt
      have hln : (xs.take k).length ≤ k := by simp; omega
      obtain ⟨e, he⟩ : ∃ e, e = xs[k] := ⟨_, rfl⟩
      rw [← he] at hck hLk HS
      clear he
      have HA := Fr.alloc wr (.cells #[.int .i64 e.o, .int .i64 e.cap, .int .i64 e.sent, .int .i64 e.got, .bool e.cl] 85)
      have HR : Hid (∀ w4, (wr.alloc (.cells #[.int .i64 e.o, .int .i64 e.cap, .int .i64 e.sent, .int .i64 e.got, .bool e.cl] 85)).grownBy w4 u3.ownBlock → Fr w w4 ∧ Reads w4 (some ⟨b, off, none⟩) (xs.map Ch.o) ∧ w2.heap.size ≤ w4.heap.size) := fun w4 g => ⟨(hf.trans HA).then g ho.blk, (R.fr HA).keep g (.inr (fun q => by
        cases hq : u3.ownBlock with
        | none => rw [hq] at q; simp [blk] at q
        | some j => rw [hq] at q; exact HU.out.1 j hq q)), by have := g.size; have := HA.size; have := HU.out.2; omega⟩
      have hw2 := HU.out.2
      have hb2 := hab b rfl
      have HU := HU.out.1
      obtain ⟨zo, zc, zs, zg, zl⟩ := e
      simp only [valC] at hck hLk HA HR
      clear HA R
      have HU : Hid (∀ j, u3.ownBlock = some j → blk (some (⟨b, off, none⟩ : Addr)) ≠ some j) := HU
      go_wp2_with (at_builtin; refine appC2 _ rfl _ _ rfl w.heap.size u3 (xs.take k) ⟨zo, zc, zs, zg, zl⟩ rfl ho rfl (by omega) hs ?_; intro v4 w4 hv4 hg4 hat4)
      obtain ⟨r1, r2, r3⟩ := HR.out w4 hg4
      go_roundw
      case rel =>
        refine ⟨k + 1, by omega, by go_num, by rw [HS.out]; exact hv4, r1, r2, ⟨fun j hj => ?_, r3⟩⟩
        rcases hat4 with q | q
        · rw [q] at hj; exact HU.out j hj
        · rw [q] at hj
          simp only [Option.some.injEq] at hj
          simp only [blk, Option.map_some, ne_eq, Option.some.injEq]
          omega
      case measure => simp [intOf]; omega
    · have e : xs.take k = xs := List.take_of_length_le (by omega)
      rw [e] at ho
      have HOX : Hid (OwnG layC wr w.heap.size u3 xs) := ho
      clear e ho
      go_wp2_with fail
      go_ret
      exact ⟨_, rfl, HOX.out, hf⟩

theorem appN2 (w : World) {ops : Array Oper} {rest : List Oper} {o : Oper} {a : Act} {Q : Exit → Act → World → Prop} (hgd : o.guard = none) (s x : Operand)
    (ho : o.op = .call { callee := .builtin .append, args := #[s, x], argTypes := #[26, 26] }) (base : Nat) (v : Value) (xs : List Ct) (e : Ct) (hs : a.eval s = v)
    (hown : OwnG layN w base v xs) (hx : a.eval x = .slice (some ⟨w.heap.size, 0, none⟩) 1 1) (hlen : xs.length ≤ 16777215) (hbase : base ≤ w.heap.size)
    (h : ∀ v' w', OwnG layN w' base v' (xs ++ [e]) → (w.alloc (.cells #[.int .i64 e.o, .int .i64 e.n] 88)).grownBy w' v.ownBlock → (v'.ownBlock = v.ownBlock ∨ v'.ownBlock = some (w.heap.size + 1)) → wpList Tryz.prog ops Q rest (a.put o.dst v') w') :
    wpList Tryz.prog ops Q (o :: rest) a (w.alloc (.cells #[.int .i64 e.o, .int .i64 e.n] 88)) :=
  appG layN _ hgd s x _ _ _ ho Tryz.underlying26 Tryz.infoN rfl (by decide) base v xs e hs (hown.fr (Fr.alloc _ _)) _ _ hx (newN w e) hlen (Nat.le_trans hbase (Fr.alloc w _).size) (fun v' w' a b c => h v' w' a b (by simpa using c))

set_option maxRecDepth 20000 in
set_option maxHeartbeats 2000000 in
theorem ordN_any (mb n : Nat) (f : Int → Option Value) (xs : List Ct) (w : World) (M : MapF w mb n f) (hr : (xs.map Ct.o).Pairwise (· < ·)) (hk : ∀ o, o ∈ xs.map Ct.o ↔ (f o).isSome = true) (hv : ∀ j (hj : j < xs.length), f (Ct.o xs[j]) = some (valN xs[j])) (hi : ∀ o ∈ xs.map Ct.o, I64 o) (hn : n ≤ 4000000) (hl : xs.length ≤ 1048576) :
    Calls Tryz.prog 117 #[.map (some mb)] w fun e w' => ∃ v, e = .returned v ∧ OwnG layN w' w.heap.size v xs ∧ Fr w w' := by
  have fE := Fr.alloc w (.cells #[] 88)
  have cK := keysN_any mb (w.alloc (.cells #[] 88))
  have cS := sortedN_any mb n f (xs.map Ct.o) (w.alloc (.cells #[] 88)) (M.fr fE) hr hk hi hn
  have hL : ∀ j (hj : j < xs.length) u, Fr w u → (Instr.lookup 147 (.map (some mb)) (.int .i64 (Ct.o xs[j])) false).run Tryz.prog u = .ok (valN xs[j]) u := fun j hj u fu => by
    rw [(M.fr fu).look Tryz.underlying147 (zeroN u) (hi _ (List.mem_map_of_mem (List.getElem_mem hj))), hv j hj]
    rfl
  have hlen : (xs.map Ct.o).length = xs.length := by simp
  rw [hlen] at cS
  simp only [World.size_alloc] at cS
  have HO : Hid (OwnG layN (w.alloc (.cells #[] 88)) w.heap.size (.slice (some ⟨w.heap.size, 0, none⟩) 0 0) []) := ownG_new layN w _ (Nat.le_refl _)
  clear M hr hk hv hi hlen
  go_enter Tryz.func117, Tryz.ntmps117
  go_wp2_with fail
  refine cK.mono ?_
  rintro e w1 ⟨rfl, rfl⟩
  clear cK
  go_wp2_with fail
  refine cS.mono ?_
  rintro e w2 ⟨ao, cap, rfl, R, hab, f2⟩
  clear cS
  have F2 := fE.trans f2
  have HO : Hid (OwnG layN w2 w.heap.size (.slice (some ⟨w.heap.size, 0, none⟩) 0 0) []) := HO.out.fr f2
  clear fE f2
  go_wp2_with fail
  go_loopw [3, 11] (fun u i wr => ∃ k : Nat, k ≤ xs.length ∧ i = .int .i64 k ∧ OwnG layN wr w.heap.size u (xs.take k) ∧ Fr w wr ∧ Reads wr ao (xs.map Ct.o) ∧ Hid ((∀ j, u.ownBlock = some j → blk ao ≠ some j) ∧ w2.heap.size ≤ wr.heap.size)) (fun _ i _ => xs.length - (intOf i).toNat)
  case atStart => exact ⟨0, Nat.zero_le _, rfl, HO.out, F2, R, ⟨fun j hj q => by have := (hab j q).1; simp only [Value.ownBlock, Option.some.injEq] at hj; omega, Nat.le_refl _⟩⟩
  case round =>
    clear HO
    obtain ⟨k, hk, rfl, ho, hf, R, HU⟩ := hrel
    have hs := hf.size
    by_cases hlt : k < xs.length
    · have Rk := R
      obtain ⟨b, off, rfl, hc⟩ := Rk.at_ k (by simpa using hlt)
      have hck := hc k (by simpa using hlt)
      rw [getD_at (by simpa using hlt), List.getElem_map] at hck
      clear hc Rk
      have hLk := hL k hlt wr hf
      have HS : Hid (xs.take (k + 1) = xs.take k ++ [xs[k]]) := List.take_succ_eq_append_getElem hlt
      have hln : (xs.take k).length ≤ k := by simp; omega
      obtain ⟨e, he⟩ : ∃ e, e = xs[k] := ⟨_, rfl⟩
      rw [← he] at hck hLk HS
      clear he
      have HA := Fr.alloc wr (.cells #[.int .i64 e.o, .int .i64 e.n] 88)
      have HR : Hid (∀ w4, (wr.alloc (.cells #[.int .i64 e.o, .int .i64 e.n] 88)).grownBy w4 u3.ownBlock → Fr w w4 ∧ Reads w4 (some ⟨b, off, none⟩) (xs.map Ct.o) ∧ w2.heap.size ≤ w4.heap.size) := fun w4 g => ⟨(hf.trans HA).then g ho.blk, (R.fr HA).keep g (.inr (fun q => by
        cases hq : u3.ownBlock with
        | none => rw [hq] at q; simp [blk] at q
        | some j => rw [hq] at q; exact HU.out.1 j hq q)), by have := g.size; have := HA.size; have := HU.out.2; omega⟩
      have hw2 := HU.out.2
      have hb2 := hab b rfl
      have HU := HU.out.1
      obtain ⟨zo, zc⟩ := e
      simp only [valN] at hck hLk HA HR
      clear HA R
      have HU : Hid (∀ j, u3.ownBlock = some j → blk (some (⟨b, off, none⟩ : Addr)) ≠ some j) := HU
      go_wp2_with (at_builtin; refine appN2 _ rfl _ _ rfl w.heap.size u3 (xs.take k) ⟨zo, zc⟩ rfl ho rfl (by omega) hs ?_; intro v4 w4 hv4 hg4 hat4)
      obtain ⟨r1, r2, r3⟩ := HR.out w4 hg4
      go_roundw
      case rel =>
        refine ⟨k + 1, by omega, by go_num, by rw [HS.out]; exact hv4, r1, r2, ⟨fun j hj => ?_, r3⟩⟩
        rcases hat4 with q | q
        · rw [q] at hj; exact HU.out j hj
        · rw [q] at hj
          simp only [Option.some.injEq] at hj
          simp only [blk, Option.map_some, ne_eq, Option.some.injEq]
          omega
      case measure => simp [intOf]; omega
    · have e : xs.take k = xs := List.take_of_length_le (by omega)
      rw [e] at ho
      have HOX : Hid (OwnG layN wr w.heap.size u3 xs) := ho
      clear e ho
      go_wp2_with fail
      go_ret
      exact ⟨_, rfl, HOX.out, hf⟩

theorem appL2 (w : World) {ops : Array Oper} {rest : List Oper} {o : Oper} {a : Act} {Q : Exit → Act → World → Prop} (hgd : o.guard = none) (s x : Operand)
    (ho : o.op = .call { callee := .builtin .append, args := #[s, x], argTypes := #[24, 24] }) (base : Nat) (v : Value) (xs : List Lv) (e : Lv) (hs : a.eval s = v)
    (hown : OwnG layL w base v xs) (hx : a.eval x = .slice (some ⟨w.heap.size, 0, none⟩) 1 1) (hlen : xs.length ≤ 16777215) (hbase : base ≤ w.heap.size)
    (h : ∀ v' w', OwnG layL w' base v' (xs ++ [e]) → (w.alloc (.cells #[.int .i64 e.o, .int .i64 e.wr, .slice e.ro e.rn e.rc] 82)).grownBy w' v.ownBlock → (v'.ownBlock = v.ownBlock ∨ v'.ownBlock = some (w.heap.size + 1)) → wpList Tryz.prog ops Q rest (a.put o.dst v') w') :
    wpList Tryz.prog ops Q (o :: rest) a (w.alloc (.cells #[.int .i64 e.o, .int .i64 e.wr, .slice e.ro e.rn e.rc] 82)) :=
  appG layL _ hgd s x _ _ _ ho Tryz.underlying24 Tryz.infoL rfl (by decide) base v xs e hs (hown.fr (Fr.alloc _ _)) _ _ hx (newL w e) hlen (Nat.le_trans hbase (Fr.alloc w _).size) (fun v' w' a b c => h v' w' a b (by simpa using c))

set_option maxRecDepth 20000 in
set_option maxHeartbeats 2000000 in
theorem ordL_any (mb n : Nat) (f : Int → Option Value) (xs : List Lv) (w : World) (M : MapF w mb n f) (hr : (xs.map Lv.o).Pairwise (· < ·)) (hk : ∀ o, o ∈ xs.map Lv.o ↔ (f o).isSome = true) (hv : ∀ j (hj : j < xs.length), f (Lv.o xs[j]) = some (valL xs[j])) (hi : ∀ o ∈ xs.map Lv.o, I64 o) (hn : n ≤ 4000000) (hl : xs.length ≤ 1048576) :
    Calls Tryz.prog 115 #[.map (some mb)] w fun e w' => ∃ v, e = .returned v ∧ OwnG layL w' w.heap.size v xs ∧ Fr w w' := by
  have fE := Fr.alloc w (.cells #[] 82)
  have cK := keysL_any mb (w.alloc (.cells #[] 82))
  have cS := sortedL_any mb n f (xs.map Lv.o) (w.alloc (.cells #[] 82)) (M.fr fE) hr hk hi hn
  have hL : ∀ j (hj : j < xs.length) u, Fr w u → (Instr.lookup 141 (.map (some mb)) (.int .i64 (Lv.o xs[j])) false).run Tryz.prog u = .ok (valL xs[j]) u := fun j hj u fu => by
    rw [(M.fr fu).look Tryz.underlying141 (zeroL u) (hi _ (List.mem_map_of_mem (List.getElem_mem hj))), hv j hj]
    rfl
  have hlen : (xs.map Lv.o).length = xs.length := by simp
  rw [hlen] at cS
  simp only [World.size_alloc] at cS
  have HO : Hid (OwnG layL (w.alloc (.cells #[] 82)) w.heap.size (.slice (some ⟨w.heap.size, 0, none⟩) 0 0) []) := ownG_new layL w _ (Nat.le_refl _)
  clear M hr hk hv hi hlen
  go_enter Tryz.func115, Tryz.ntmps115
  go_wp2_with fail
  refine cK.mono ?_
  rintro e w1 ⟨rfl, rfl⟩
  clear cK
  go_wp2_with fail
  refine cS.mono ?_
  rintro e w2 ⟨ao, cap, rfl, R, hab, f2⟩
  clear cS
  have F2 := fE.trans f2
  have HO : Hid (OwnG layL w2 w.heap.size (.slice (some ⟨w.heap.size, 0, none⟩) 0 0) []) := HO.out.fr f2
  clear fE f2
  go_wp2_with fail
  go_loopw [3, 11] (fun u i wr => ∃ k : Nat, k ≤ xs.length ∧ i = .int .i64 k ∧ OwnG layL wr w.heap.size u (xs.take k) ∧ Fr w wr ∧ Reads wr ao (xs.map Lv.o) ∧ Hid ((∀ j, u.ownBlock = some j → blk ao ≠ some j) ∧ w2.heap.size ≤ wr.heap.size)) (fun _ i _ => xs.length - (intOf i).toNat)
  case atStart => exact ⟨0, Nat.zero_le _, rfl, HO.out, F2, R, ⟨fun j hj q => by have := (hab j q).1; simp only [Value.ownBlock, Option.some.injEq] at hj; omega, Nat.le_refl _⟩⟩
  case round =>
    clear HO
    obtain ⟨k, hk, rfl, ho, hf, R, HU⟩ := hrel
    have hs := hf.size
    by_cases hlt : k < xs.length
    · have Rk := R
      obtain ⟨b, off, rfl, hc⟩ := Rk.at_ k (by simpa using hlt)
      have hck := hc k (by simpa using hlt)
      rw [getD_at (by simpa using hlt), List.getElem_map] at hck
      clear hc Rk
      have hLk := hL k hlt wr hf
      have HS : Hid (xs.take (k + 1) = xs.take k ++ [xs[k]]) := List.take_succ_eq_append_getElem hlt
      have hln : (xs.take k).length ≤ k := by simp; omega
      obtain ⟨e, he⟩ : ∃ e, e = xs[k] := ⟨_, rfl⟩
      rw [← he] at hck hLk HS
      clear he
      have HA := Fr.alloc wr (.cells #[.int .i64 e.o, .int .i64 e.wr, .slice e.ro e.rn e.rc] 82)
      have HR : Hid (∀ w4, (wr.alloc (.cells #[.int .i64 e.o, .int .i64 e.wr, .slice e.ro e.rn e.rc] 82)).grownBy w4 u3.ownBlock → Fr w w4 ∧ Reads w4 (some ⟨b, off, none⟩) (xs.map Lv.o) ∧ w2.heap.size ≤ w4.heap.size) := fun w4 g => ⟨(hf.trans HA).then g ho.blk, (R.fr HA).keep g (.inr (fun q => by
        cases hq : u3.ownBlock with
        | none => rw [hq] at q; simp [blk] at q
        | some j => rw [hq] at q; exact HU.out.1 j hq q)), by have := g.size; have := HA.size; have := HU.out.2; omega⟩
      have hw2 := HU.out.2
      have hb2 := hab b rfl
      have HU := HU.out.1
      obtain ⟨zo, zc, zr, zn, zk⟩ := e
      simp only [valL] at hck hLk HA HR
      clear HA R
      have HU : Hid (∀ j, u3.ownBlock = some j → blk (some (⟨b, off, none⟩ : Addr)) ≠ some j) := HU
      go_wp2_with (at_builtin; refine appL2 _ rfl _ _ rfl w.heap.size u3 (xs.take k) ⟨zo, zc, zr, zn, zk⟩ rfl ho rfl (by omega) hs ?_; intro v4 w4 hv4 hg4 hat4)
      obtain ⟨r1, r2, r3⟩ := HR.out w4 hg4
      go_roundw
      case rel =>
        refine ⟨k + 1, by omega, by go_num, by rw [HS.out]; exact hv4, r1, r2, ⟨fun j hj => ?_, r3⟩⟩
        rcases hat4 with q | q
        · rw [q] at hj; exact HU.out j hj
        · rw [q] at hj
          simp only [Option.some.injEq] at hj
          simp only [blk, Option.map_some, ne_eq, Option.some.injEq]
          omega
      case measure => simp [intOf]; omega
    · have e : xs.take k = xs := List.take_of_length_le (by omega)
      rw [e] at ho
      have HOX : Hid (OwnG layL wr w.heap.size u3 xs) := ho
      clear e ho
      go_wp2_with fail
      go_ret
      exact ⟨_, rfl, HOX.out, hf⟩
end Go.Proofs.YthehhiccfnhinaaGreatDoor
/-
  'append' on a slice of int64 that the call owns, with where the new one lies.
-/
namespace Go.Proofs.YthehhiccfnhinaaGreatDoor
open Go.RowKit

theorem appI2 (w : World) {ops : Array Oper} {rest : List Oper} {o : Oper} {a : Act} {Q : Exit → Act → World → Prop} (hgd : o.guard = none) (s x : Operand)
    (ho : o.op = .call { callee := .builtin .append, args := #[s, x], argTypes := #[27, 27] })
    (base : Nat) (v : Value) (xs news : List Int) (hs : a.eval s = v) (hown : OwnS w base v xs)
    (ao : Option Addr) (m c : Nat) (hx : a.eval x = .slice ao m c) (hm : news.length = m) (hc : ao = none → c = 0) (hnews : Reads w ao news)
    (hlen : xs.length + news.length ≤ 4294967296) (hbase : base ≤ w.heap.size)
    (h : ∀ v' w', OwnS w' base v' (xs ++ news) → w.grownBy w' v.ownBlock → (v'.ownBlock = v.ownBlock ∨ v'.ownBlock = some w.heap.size) → wpList Tryz.prog ops Q rest (a.put o.dst v') w') : wpList Tryz.prog ops Q (o :: rest) a w := by
  obtain ⟨i0, hi, hz0, hz1, hz2⟩ := info_parts Tryz.info2
  subst hm
  have hbd : ∀ x ∈ xs ++ news, I64 x := by
    obtain ⟨g, cap, rfl, ho⟩ := hown
    intro x hx
    rcases List.mem_append.1 hx with hx | hx
    · exact ho.2.2 x hx
    · exact hnews.bd x hx
  cases ao with
  | none =>
    have hnil : news = [] := by
      cases news with
      | nil => rfl
      | cons y ys => obtain ⟨b, off, e, _⟩ := hnews.at_ 0 (by simp); cases e
    subst hnil
    have := hc rfl
    subst this
    obtain ⟨g, cap, rfl, ho'⟩ := hown
    refine wpList_append_own_none hgd s x 27 ho base 2 i0 1 Tryz.underlying27 hi _ _ _ hs ho'.1 hx ?_
    refine h _ w ?_ ⟨rfl, rfl, rfl, Nat.le_refl _, fun _ _ _ => rfl⟩ (.inl rfl)
    rw [List.append_nil]
    exact ⟨g, cap, rfl, ho'⟩
  | some ad =>
    have hcell : ∀ j u, (news.map (Value.int .i64))[j]? = some u → w.cell? (ad.add j) = some u := by
      intro j u hu
      have hj : j < news.length := by
        have := (List.getElem?_eq_some_iff.1 hu).1
        simpa using this
      obtain ⟨b, off, e, hcc⟩ := hnews.at_ j hj
      simp only [Option.some.injEq] at e
      subst e
      rw [Addr.add_lit, hcc j hj]
      rw [List.getElem?_map, List.getElem?_eq_getElem hj] at hu
      rw [getD_at hj]
      simpa using hu
    obtain ⟨g, cap, rfl, ho'⟩ := hown
    refine wpList_append_own_at w hgd s x 27 ho base 2 i0 (.int .i64 0) 1 8 Tryz.underlying27 hi hz0 hz1 hz2 rfl (by decide) _ _ _ hs ho'.1 ad news.length c (news.map (Value.int .i64)) hx (by simp) hcell (ints_oneCell _ _) (by unfold maxLen; omega) (by omega) hbase ?_
    intro v' w' hv hg hnz hat
    refine h v' w' (shape_of ?_ ?_ (by simp; omega) hbd) hg hat
    · simpa using hv
    · intro e
      have := (hnz.1 e).1
      simp at this
end Go.Proofs.YthehhiccfnhinaaGreatDoor
/-
  inOrder of numbers.
-/
namespace Go.Proofs.YthehhiccfnhinaaGreatDoor
open Go.RowKit

set_option maxRecDepth 20000 in
set_option maxHeartbeats 2000000 in
theorem ordI_any (mb n : Nat) (f : Int → Option Value) (xs : List Int) (w : World) (M : MapF w mb n f) (hr : xs.Pairwise (· < ·)) (hk : ∀ o, o ∈ xs ↔ (f o).isSome = true) (hv : ∀ j (hj : j < xs.length), f xs[j] = some (valI xs[j])) (hi : ∀ o ∈ xs, I64 o) (hn : n ≤ 4000000) (hl : xs.length ≤ 1048576) :
    Calls Tryz.prog 118 #[.map (some mb)] w fun e w' => ∃ v, e = .returned v ∧ OwnS w' w.heap.size v xs ∧ Fr w w' := by
  have fE := Fr.alloc w (.cells #[] 2)
  have cK := keysI_any mb (w.alloc (.cells #[] 2))
  have cS := sortedI_any mb n f xs (w.alloc (.cells #[] 2)) (M.fr fE) hr hk hi hn
  have hL : ∀ j (hj : j < xs.length) u, Fr w u → (Instr.lookup 150 (.map (some mb)) (.int .i64 xs[j]) false).run Tryz.prog u = .ok (.int .i64 xs[j]) u := fun j hj u fu => by
    rw [(M.fr fu).look Tryz.underlying150 (zeroI u) (hi _ (List.getElem_mem hj)), hv j hj]
    rfl
  simp only [World.size_alloc] at cS
  have HO : Hid (OwnS (w.alloc (.cells #[] 2)) w.heap.size (.slice (some ⟨w.heap.size, 0, none⟩) 0 0) []) := own_empty w _ (Nat.le_refl _)
  clear M hr hk hv
  go_enter Tryz.func118, Tryz.ntmps118
  go_wp2_with fail
  refine cK.mono ?_
  rintro e w1 ⟨rfl, rfl⟩
  clear cK
  go_wp2_with fail
  refine cS.mono ?_
  rintro e w2 ⟨ao, cap, rfl, R, hab, f2⟩
  clear cS
  have F2 := fE.trans f2
  have HO : Hid (OwnS w2 w.heap.size (.slice (some ⟨w.heap.size, 0, none⟩) 0 0) []) := HO.out.fr f2
  clear fE f2
  go_wp2_with fail
  go_loopw [3, 11] (fun u i wr => ∃ k : Nat, k ≤ xs.length ∧ i = .int .i64 k ∧ OwnS wr w.heap.size u (xs.take k) ∧ Fr w wr ∧ Reads wr ao xs ∧ Hid ((∀ j, u.ownBlock = some j → blk ao ≠ some j) ∧ w2.heap.size ≤ wr.heap.size)) (fun _ i _ => xs.length - (intOf i).toNat)
  case atStart => exact ⟨0, Nat.zero_le _, rfl, HO.out, F2, R, ⟨fun j hj q => by have := (hab j q).1; simp only [Value.ownBlock, Option.some.injEq] at hj; omega, Nat.le_refl _⟩⟩
  case round =>
    clear HO
    obtain ⟨k, hk, rfl, ho, hf, R, HU⟩ := hrel
    have hs := hf.size
    by_cases hlt : k < xs.length
    · have Rk := R
      obtain ⟨b, off, rfl, hc⟩ := Rk.at_ k hlt
      have hck := hc k hlt
      rw [getD_at hlt] at hck
      clear hc Rk
      have hI := hi _ (List.getElem_mem hlt)
      have hLk := hL k hlt wr hf
      have HS : Hid (xs.take (k + 1) = xs.take k ++ [xs[k]]) := List.take_succ_eq_append_getElem hlt
      have hln : (xs.take k).length ≤ k := by simp; omega
      obtain ⟨z, hz⟩ : ∃ z, z = xs[k] := ⟨_, rfl⟩
      rw [← hz] at hck hLk HS hI
      clear hz
      have HA := Fr.alloc wr (.cells #[.int .i64 z] 2)
      have HR : Hid (∀ w4, (wr.alloc (.cells #[.int .i64 z] 2)).grownBy w4 u3.ownBlock → Fr w w4 ∧ Reads w4 (some ⟨b, off, none⟩) xs ∧ w2.heap.size ≤ w4.heap.size) := fun w4 g => ⟨(hf.trans HA).then g ho.blk, (R.fr HA).keep g (.inr (fun q => by
        cases hq : u3.ownBlock with
        | none => rw [hq] at q; simp [blk] at q
        | some j => rw [hq] at q; exact HU.out.1 j hq q)), by have := g.size; have := HA.size; have := HU.out.2; omega⟩
      have hw2 := HU.out.2
      have hb2 := hab b rfl
      have HU := HU.out.1
      clear HA R
      have HU : Hid (∀ j, u3.ownBlock = some j → blk (some (⟨b, off, none⟩ : Addr)) ≠ some j) := HU
      have hm := reads_one wr z hI
      go_wp2_with (at_builtin; refine appI2 _ rfl _ _ rfl w.heap.size _ _ [z] rfl (ho.fr (Fr.alloc _ _)) _ _ _ rfl rfl (by simp) hm (by simp; omega) (by simp; omega) ?_; intro v4 w4 hv4 hg4 hat4)
      obtain ⟨r1, r2, r3⟩ := HR.out w4 hg4
      go_roundw
      case rel =>
        refine ⟨k + 1, by omega, by go_num, by rw [HS.out]; exact hv4, r1, r2, ⟨fun j hj => ?_, r3⟩⟩
        rcases hat4 with q | q
        · rw [q] at hj; exact HU.out j hj
        · rw [q] at hj
          simp only [Option.some.injEq, World.size_alloc] at hj
          simp only [blk, Option.map_some, ne_eq, Option.some.injEq]
          omega
      case measure => simp [intOf]; omega
    · have e : xs.take k = xs := List.take_of_length_le (by omega)
      rw [e] at ho
      have HOX : Hid (OwnS wr w.heap.size u3 xs) := ho
      clear e ho
      go_wp2_with fail
      go_ret
      exact ⟨_, rfl, HOX.out, hf⟩
end Go.Proofs.YthehhiccfnhinaaGreatDoor
/-
  What a board holds, as lists; the locks' loop of the board's scene.
-/
namespace Go.Proofs.YthehhiccfnhinaaGreatDoor
open Go.RowKit

theorem find_of_mem {α : Type} (key : α → Int) : ∀ (xs : List α), (xs.map key).Pairwise (· < ·) → ∀ x ∈ xs, xs.find? (fun y => key y == key x) = some x
  | [], _, x, hx => by simp at hx
  | y :: ys, h, x, hx => by
    rw [List.map_cons, List.pairwise_cons] at h
    rcases List.mem_cons.1 hx with rfl | hx
    · rw [List.find?_cons]; simp
    · have h1 := h.1 _ (List.mem_map_of_mem hx)
      rw [List.find?_cons, show (key y == key x) = false by simp; omega]
      exact find_of_mem key ys h.2 x hx
theorem mem_find {α : Type} (key : α → Int) (o : Int) (xs : List α) : o ∈ xs.map key ↔ (xs.find? (fun y => key y == o)).isSome = true := by
  rw [List.find?_isSome, List.mem_map]
  constructor
  · rintro ⟨x, hx, rfl⟩; exact ⟨x, hx, by simp⟩
  · rintro ⟨x, hx, e⟩; exact ⟨x, hx, by simpa using e⟩
theorem lvs_of {B : Nat → Prop} {w : World} {fl : Int → Option Value} : ∀ (ls : List Lk), (∀ l ∈ ls, ∃ lv, fl l.o = some (valL lv) ∧ LkR B w lv l) → ∃ lvs, LksR B w lvs ls ∧ ∀ lv ∈ lvs, fl lv.o = some (valL lv)
  | [], _ => ⟨[], LksR.nil _ _, by simp⟩
  | l :: ls, h => by
    obtain ⟨lv, h1, h2⟩ := h l (List.mem_cons_self ..)
    obtain ⟨lvs, h3, h4⟩ := lvs_of ls fun x hx => h x (List.mem_cons_of_mem _ hx)
    refine ⟨lv :: lvs, ⟨by simp [h3.len], fun j q1 q2 => ?_⟩, fun x hx => ?_⟩
    · cases j with
      | zero => exact h2
      | succ j => exact h3.at_ j (by simpa using q1) (by simpa using q2)
    · rcases List.mem_cons.1 hx with rfl | hx
      · rw [h2.o]; exact h1
      · exact h4 x hx
/-- The locks that a board holds. -/
theorem BoardW.lks {lo : Nat × Nat} {w : World} {b b1 b2 b3 b4 n : Nat} {m : Scn} (h : BoardW lo w b b1 b2 b3 b4 n m) (hm : scB m = true) : ∃ fl lvs, MapF w b1 n fl ∧ LksR (Off lo) w lvs m.ls ∧ (∀ j (hj : j < lvs.length), fl lvs[j].o = some (valL lvs[j])) ∧ (∀ o, o ∈ lvs.map Lv.o ↔ (fl o).isSome = true) := by
  obtain ⟨fl, M, hf⟩ := h.m1
  have hr := (sc_rise hm).1
  obtain ⟨lvs, h1, h2⟩ := lvs_of (B := Off lo) (w := w) (fl := fl) m.ls (fun l hl => by
    have h3 := find_of_mem Lk.o m.ls hr l hl
    rcases hf l.o with ⟨q, _⟩ | ⟨lk, lv, q1, q2, q3⟩
    · rw [q] at h3; cases h3
    · rw [q1] at h3; cases h3; exact ⟨lv, q2, q3⟩)
  refine ⟨fl, lvs, M, h1, fun j hj => h2 _ (List.getElem_mem hj), fun o => ?_⟩
  rw [lk_os _ _ h1, mem_find]
  rcases hf o with ⟨q, q2⟩ | ⟨lk, lv, q1, q2, q3⟩
  · rw [q, q2]; simp
  · rw [q1, q2]; simp

/-- A new Readers slice written into the lock at k. -/
theorem reads_setR {w : World} {g k : Nat} {ys : List Lv} {ao : Option Addr} {rn rc : Nat} (h : ReadsG layL w (some ⟨g, 0, none⟩) ys) (hk : k < ys.length) :
    ReadsG layL (w.setCell ⟨g, k * 3 + 2, none⟩ (.slice ao rn rc)) (some ⟨g, 0, none⟩) (ys.set k { ys[k] with ro := ao, rn := rn, rc := rc }) := by
  refine ⟨by simpa using h.len, fun i hi => ⟨g, 0, rfl, fun j hj q hq => ?_⟩⟩
  obtain ⟨b, off, e, hc⟩ := h.at_ k hk
  simp only [Option.some.injEq, Addr.mk.injEq, and_true] at e
  obtain ⟨rfl, rfl⟩ := e
  have hj' : j < ys.length := by simpa using hj
  have hq' : q < 3 := hq
  have h0 := hc j hj' q hq
  have hsz : layL.sz = 3 := rfl
  by_cases hjk : j = k
  · subst hjk
    by_cases hq2 : q = 2
    · subst hq2
      have : (0 + j * layL.sz + 2) = j * 3 + 2 := by rw [hsz]; omega
      rw [this] at h0 ⊢
      rw [World.cell?_setCell_same' _ _ _ (by rw [h0]; rfl)]
      simp [layL]
    · have : (0 + j * layL.sz + q) ≠ j * 3 + 2 := by rw [hsz]; omega
      have hne : (⟨g, 0 + j * layL.sz + q, none⟩ : Addr) ≠ ⟨g, j * 3 + 2, none⟩ := fun e => this (by injection e)
      rw [World.cell?_setCell_other _ _ _ _ hne.symm, h0, List.getElem_set_self]
      have : q = 0 ∨ q = 1 := by omega
      rcases this with rfl | rfl <;> rfl
  · have : (0 + j * layL.sz + q) ≠ k * 3 + 2 := by rw [hsz]; omega
    have hne : (⟨g, 0 + j * layL.sz + q, none⟩ : Addr) ≠ ⟨g, k * 3 + 2, none⟩ := fun e => this (by injection e)
    rw [World.cell?_setCell_other _ _ _ _ hne.symm, h0, List.getElem_set_ne (fun e => hjk e.symm)]

/-- In the midst of the locks' loop: the first k have Readers of their own. -/
structure LX (w wr : World) (g k : Nat) (lvs ys : List Lv) (ls : List Lk) : Prop where
  fr : Fr w wr
  ge : w.heap.size ≤ g
  row : ∃ cur, wr.heap[g]? = some (.cells cur 82 (0, 0))
  rd : ReadsG layL wr (some ⟨g, 0, none⟩) ys
  len : ys.length = ls.length
  new : ∀ j (h1 : j < ys.length) (h2 : j < ls.length), j < k → LkR (fun x => w.heap.size < x ∧ x < wr.heap.size ∧ x ≠ g) wr ys[j] ls[j]
  old : ∀ j (h1 : j < ys.length) (h2 : j < lvs.length), k ≤ j → ys[j] = lvs[j]
  ow : ∀ j (h1 : j < ys.length) (h2 : j < ls.length), j < k → ∃ gj, ys[j].ro = some ⟨gj, 0, none⟩ ∧ gj ≠ g ∧ gj < wr.heap.size ∧ OwnI wr w.heap.size (.slice (some ⟨gj, 0, none⟩) ys[j].rn ys[j].rc) ls[j].rd
  ap : ∀ i j (h1 : i < ys.length) (h2 : j < ys.length), i < k → j < k → i ≠ j → ys[i].ro ≠ ys[j].ro
theorem LX.glt {w wr : World} {g k : Nat} {lvs ys : List Lv} {ls : List Lk} (h : LX w wr g k lvs ys ls) : g < wr.heap.size := by
  obtain ⟨cur, hc⟩ := h.row
  exact (Array.getElem?_eq_some_iff.1 hc).1
theorem LX.grow {w wr w' : World} {g k : Nat} {lvs ys : List Lv} {ls : List Lk} (h : LX w wr g k lvs ys ls) (f : Fr wr w') : LX w w' g k lvs ys ls := by
  obtain ⟨cur, hc⟩ := h.row
  have hs := f.size
  exact ⟨h.fr.trans f, h.ge, ⟨cur, (f.block g h.glt (by simp)).trans hc⟩, h.rd.fr f, h.len, fun j h1 h2 hk => ((h.new j h1 h2 hk).fr f).mono (fun x q => ⟨q.1, by omega, q.2.2⟩), h.old, fun j h1 h2 hk => by
    obtain ⟨gj, a1, a2, a3, a4⟩ := h.ow j h1 h2 hk
    exact ⟨gj, a1, a2, by omega, a4.fr f⟩, h.ap⟩
theorem LX.put {w wr : World} {g k g2 c2 : Nat} {lvs ys : List Lv} {ls : List Lk} (h : LX w wr g k lvs ys ls) (hk : k < ys.length) (hk2 : k < ls.length) (hk3 : k < lvs.length) (hL : LkR (fun _ => True) wr lvs[k] ls[k]) (O : OwnI wr w.heap.size (.slice (some ⟨g2, 0, none⟩) ls[k].rd.length c2) ls[k].rd) (hfr : ∀ j (h1 : j < ys.length), j < k → ys[j].ro ≠ some ⟨g2, 0, none⟩) (hg2 : w.heap.size < g2 ∧ g2 < wr.heap.size ∧ g2 ≠ g) :
    LX w (wr.setCell ⟨g, k * 3 + 2, none⟩ (.slice (some ⟨g2, 0, none⟩) ls[k].rd.length c2)) g (k + 1) lvs (ys.set k { ys[k] with ro := some ⟨g2, 0, none⟩, rn := ls[k].rd.length, rc := c2 }) ls := by
  obtain ⟨cur, hc⟩ := h.row
  have ks := grown_set wr g (k * 3 + 2) (.slice (some ⟨g2, 0, none⟩) ls[k].rd.length c2)
  have hs := ks.size
  have he := h.old k hk (by omega) (Nat.le_refl _)
  have hg := h.ge
  refine ⟨h.fr.then ks (fun j hj => by simp only [Option.some.injEq] at hj; omega), hg, ⟨_, heap_setCell_same wr g (k * 3 + 2) _ _ _ hc⟩, reads_setR h.rd hk, by simpa using h.len, fun j h1 h2 hj => ?_, fun j h1 h2 hj => ?_, fun j h1 h2 hj => ?_, fun i j h1 h2 hi hj hij => ?_⟩
  · by_cases e : j = k
    · subst e
      rw [List.getElem_set_self]
      refine ⟨by simp only [he]; exact hL.o, by simp only [he]; exact hL.wr, rfl, O.reads.keep ks (.inr (by simp [blk]; omega)), fun b q => ?_, fun q => by simp at q, hL.sz, hL.io, hL.iw⟩
      simp only [blk, Option.map_some, Option.some.injEq] at q
      subst q
      exact ⟨hg2.1, by omega, hg2.2.2⟩
    · rw [List.getElem_set_ne (fun q => e q.symm)]
      exact ((h.new j (by simpa using h1) h2 (by omega)).keep ks (fun x hx => by cases hx; exact fun q => q.2.2 rfl)).mono (fun x q => ⟨q.1, by omega, q.2.2⟩)
  · rw [List.getElem_set_ne (by omega)]
    exact h.old j (by simpa using h1) h2 (by omega)
  · by_cases e : j = k
    · subst e
      rw [List.getElem_set_self]
      exact ⟨g2, rfl, hg2.2.2, by omega, O.keep ks (.inr (by simp [Value.ownBlock]; omega))⟩
    · rw [List.getElem_set_ne (fun q => e q.symm)]
      obtain ⟨gj, a1, a2, a3, a4⟩ := h.ow j (by simpa using h1) h2 (by omega)
      exact ⟨gj, a1, a2, by omega, a4.keep ks (.inr (by simp [Value.ownBlock]; omega))⟩
  · have h1' : i < ys.length := by simpa using h1
    have h2' : j < ys.length := by simpa using h2
    by_cases e1 : i = k
    · subst e1
      rw [List.getElem_set_self, List.getElem_set_ne (fun q => hij q)]
      exact fun q => hfr j h2' (by omega) q.symm
    · by_cases e2 : j = k
      · subst e2
        rw [List.getElem_set_self, List.getElem_set_ne (fun q => e1 q.symm)]
        exact hfr i h1' (by omega)
      · rw [List.getElem_set_ne (fun q => e1 q.symm), List.getElem_set_ne (fun q => e2 q.symm)]
        exact h.ap i j h1' h2' (by omega) (by omega) hij
end Go.Proofs.YthehhiccfnhinaaGreatDoor
/-
  Marks in lists of channels: written, and held.
-/
namespace Go.Proofs.YthehhiccfnhinaaGreatDoor
open Go.RowKit

/-- The marked channels. -/
def upC (q : Int) : Ch := ⟨q, q + 1, q + 1 + 1, q + 1 + 1 + 1, (q + 1 + 1 + 1 + 1) % 3 == 0⟩
def mkC (q : Int) (n : Nat) : List Ch := (List.range n).map fun i : Nat => upC (q + 5 * (i : Int))
theorem mkC_length (q : Int) (n : Nat) : (mkC q n).length = n := by simp [mkC]
theorem mkC_succ (q : Int) (n : Nat) : mkC q (n + 1) = mkC q n ++ [upC (q + 5 * (n : Int))] := by simp [mkC, List.range_succ]
theorem mkC_at (q : Int) (n j : Nat) (h : j < (mkC q n).length) : (mkC q n)[j] = upC (q + 5 * (j : Int)) := by simp [mkC]

set_option maxRecDepth 20000 in
set_option maxHeartbeats 1000000 in
theorem markC_any (g n cap : Nat) (q : Int) (xs : List Ch) (w : World) (hn : xs.length = n) (hl : n ≤ 1048576) (q0 : 0 ≤ q) (q1 : q ≤ 4294967296) (h : ReadsG layC w (some ⟨g, 0, none⟩) xs) (hr : RowAt w g 85) :
    Calls Tryz.prog 94 #[.slice (some ⟨g, 0, none⟩) n cap, .int .i64 q] w fun e w' => e = .returned (.int .i64 (q + 5 * (n : Int))) ∧ ReadsG layC w' (some ⟨g, 0, none⟩) (mkC q n) ∧ RowAt w' g 85 ∧ w.grownBy w' (some g) := by
  subst hn
  go_enter Tryz.func94, Tryz.ntmps94
  go_wp2_with fail
  go_loopw [1, 5] (fun c i wr => ∃ k : Nat, k ≤ xs.length ∧ i = .int .i64 k ∧ c = .int .i64 (q + 5 * (k : Int)) ∧ ReadsG layC wr (some ⟨g, 0, none⟩) (mkC q k ++ xs.drop k) ∧ RowAt wr g 85 ∧ w.grownBy wr (some g)) (fun _ i _ => xs.length - (intOf i).toNat)
  case atStart => exact ⟨0, Nat.zero_le _, rfl, by simp, by simpa [mkC] using h, hr, ⟨rfl, rfl, rfl, Nat.le_refl _, fun _ _ _ => rfl⟩⟩
  case round =>
    obtain ⟨k, hk, rfl, rfl, hR, hrw, hf⟩ := hrel
    by_cases hlt : k < xs.length
    · have hkl : k < (mkC q k ++ xs.drop k).length := by rw [List.length_append, mkC_length]; simp; omega
      obtain ⟨b, off, e0, d0, d1, d2, d3, d4⟩ := ch_at hR k hkl
      simp only [Option.some.injEq, Addr.mk.injEq, and_true] at e0
      obtain ⟨rfl, rfl⟩ := e0
      simp only [Nat.zero_add] at d0 d1 d2 d3 d4
      have z0 := hrw.free (k * 5)
      have z1 := hrw.free (k * 5 + 1)
      have z2 := hrw.free (k * 5 + 2)
      have z3 := hrw.free (k * 5 + 3)
      have z4 := hrw.free (k * 5 + 4)
      have HS : Hid (∀ K, K = q + 5 * (k : Int) → ReadsG layC (((((wr.setCell ⟨g, k * 5, none⟩ (.int .i64 K)).setCell ⟨g, k * 5 + 1, none⟩ (.int .i64 (K + 1))).setCell ⟨g, k * 5 + 2, none⟩ (.int .i64 (K + 1 + 1))).setCell ⟨g, k * 5 + 3, none⟩ (.int .i64 (K + 1 + 1 + 1))).setCell ⟨g, k * 5 + 4, none⟩ (.bool ((K + 1 + 1 + 1 + 1) % 3 == 0))) (some ⟨g, 0, none⟩) (mkC q (k + 1) ++ xs.drop (k + 1))) := by
        intro K hK
        obtain ⟨X, hX⟩ : ∃ X, X = (mkC q k ++ xs.drop k)[k] := ⟨_, rfl⟩
        have h1 := reads_cell (L := layC) (q := 0) (e := { X with o := K }) (v := .int .i64 K) hR hkl (by decide) (by rw [← hX]; rfl)
        have h2 := reads_cell (L := layC) (q := 1) (e := { X with o := K, cap := K + 1 }) (v := .int .i64 (K + 1)) h1 (by simpa using hkl) (by decide) (by rw [List.getElem_set_self]; rfl)
        have h3 := reads_cell (L := layC) (q := 2) (e := { X with o := K, cap := K + 1, sent := K + 1 + 1 }) (v := .int .i64 (K + 1 + 1)) h2 (by simpa using hkl) (by decide) (by rw [List.getElem_set_self]; rfl)
        have h4 := reads_cell (L := layC) (q := 3) (e := { X with o := K, cap := K + 1, sent := K + 1 + 1, got := K + 1 + 1 + 1 }) (v := .int .i64 (K + 1 + 1 + 1)) h3 (by simpa using hkl) (by decide) (by rw [List.getElem_set_self]; rfl)
        have h5 := reads_cell (L := layC) (q := 4) (e := upC K) (v := .bool ((K + 1 + 1 + 1 + 1) % 3 == 0)) h4 (by simpa using hkl) (by decide) (by rw [List.getElem_set_self]; rfl)
        rw [List.set_set, List.set_set, List.set_set, List.set_set, List.drop_eq_getElem_cons hlt, set_mid _ _ _ _ _ (mkC_length q k), hK, ← mkC_succ] at h5
        rw [hK]
        exact h5
      have HR : Hid (∀ a0 a1 a2 a3 a4, RowAt (((((wr.setCell ⟨g, k * 5, none⟩ a0).setCell ⟨g, k * 5 + 1, none⟩ a1).setCell ⟨g, k * 5 + 2, none⟩ a2).setCell ⟨g, k * 5 + 3, none⟩ a3).setCell ⟨g, k * 5 + 4, none⟩ a4) g 85 ∧ w.grownBy (((((wr.setCell ⟨g, k * 5, none⟩ a0).setCell ⟨g, k * 5 + 1, none⟩ a1).setCell ⟨g, k * 5 + 2, none⟩ a2).setCell ⟨g, k * 5 + 3, none⟩ a3).setCell ⟨g, k * 5 + 4, none⟩ a4) (some g)) := fun _ _ _ _ _ => ⟨((((hrw.set _ _).set _ _).set _ _).set _ _).set _ _, grown_trans hf (grown_trans (grown_set _ _ _ _) (grown_trans (grown_set _ _ _ _) (grown_trans (grown_set _ _ _ _) (grown_trans (grown_set _ _ _ _) (grown_set _ _ _ _)))))⟩
      have hi : (k : Int) < xs.length := by omega
      have HQ : Hid (q + 5 * (k : Int) ≤ 4400000000 ∧ 0 ≤ q + 5 * (k : Int)) := ⟨by omega, by omega⟩
      obtain ⟨K, hK⟩ : ∃ K, K = q + 5 * (k : Int) := ⟨_, rfl⟩
      rw [← hK] at HQ ⊢
      have HS := HS.out K hK
      have HS : Hid _ := HS
      have HK : Hid (K = q + 5 * (k : Int)) := hK
      have hKb := HQ.out
      clear hR hrw hf hK
      go_wp2_with fail
      go_roundw
      case rel => exact ⟨k + 1, by omega, by go_num, by have := HK.out; go_num, HS.out, (HR.out _ _ _ _ _).1, (HR.out _ _ _ _ _).2⟩
      case measure => simp [intOf]; omega
    · have e : k = xs.length := by omega
      subst e
      rw [List.drop_length, List.append_nil] at hR
      go_wp2_with fail
      go_ret
      exact ⟨rfl, hR, hrw, hf⟩

set_option maxHeartbeats 1000000 in
theorem heldC_any (ao : Option Addr) (n cap : Nat) (q : Int) (w : World) (hl : n ≤ 1048576) (q0 : 0 ≤ q) (q1 : q ≤ 4294967296) (h : ReadsG layC w ao (mkC q n)) :
    Calls Tryz.prog 97 #[.slice ao n cap, .int .i64 q] w fun e w' => e = .returned (.int .i64 (q + 5 * (n : Int))) ∧ w' = w := by
  go_enter Tryz.func97, Tryz.ntmps97
  go_wp2_with fail
  go_loop [1, 5] (fun c i => ∃ k : Nat, k ≤ n ∧ i = .int .i64 k ∧ c = .int .i64 (q + 5 * (k : Int))) (fun _ i => n - (intOf i).toNat)
  case atStart => exact ⟨0, Nat.zero_le _, rfl, by simp⟩
  case round =>
    obtain ⟨k, hk, rfl, rfl⟩ := hrel
    by_cases hlt : k < n
    · have hkl : k < (mkC q n).length := by rw [mkC_length]; exact hlt
      obtain ⟨b, off, rfl, d0, d1, d2, d3, d4⟩ := ch_at h k hkl
      rw [mkC_at] at d0 d1 d2 d3 d4
      simp only [upC] at d0 d1 d2 d3 d4
      have hi : (k : Int) < n := by omega
      have hKb : q + 5 * (k : Int) ≤ 4400000000 ∧ 0 ≤ q + 5 * (k : Int) := ⟨by omega, by omega⟩
      obtain ⟨K, hK⟩ : ∃ K, K = q + 5 * (k : Int) := ⟨_, rfl⟩
      rw [← hK] at d0 d1 d2 d3 d4 hKb ⊢
      have HK : Hid (K = q + 5 * (k : Int)) := hK
      clear hK
      obtain ⟨bb, hbb⟩ : ∃ b, b = ((K + 1 + 1 + 1 + 1) % 3 == 0) := ⟨_, rfl⟩
      have hb4 : (bb != bb) = false := by simp
      go_wp2_with fail
      go_round
      case rel => exact ⟨k + 1, by omega, by go_num, by have := HK.out; go_num⟩
      case measure => simp [intOf]; omega
    · have e : k = n := by omega
      subst e
      go_wp2_with fail
      go_ret
      exact ⟨rfl, rfl⟩
end Go.Proofs.YthehhiccfnhinaaGreatDoor
/-
  The walks of the laws' markInt64S (it writes k, k + 1, .. into a list) and heldInt64S (are these still there?).
-/
namespace Go.Proofs.YthehhiccfnhinaaGreatDoor
open Go.RowKit

/-- k, k + 1, .., n of them. -/
def ups (k : Int) (n : Nat) : List Int := (List.range n).map fun j : Nat => k + (j : Int)
theorem ups_length (k : Int) (n : Nat) : (ups k n).length = n := by simp [ups]
theorem ups_at (k : Int) (n j : Nat) (h : j < n) : (ups k n)[j]? = some (k + (j : Int)) := by simp [ups, h]

theorem mark_step (xs : List Int) (q : Int) (k : Nat) (h : k < xs.length) :
    (((ups q k) ++ xs.drop k).map (Value.int .i64)).set k (.int .i64 (q + (k : Int))) = ((ups q (k + 1)) ++ xs.drop (k + 1)).map (Value.int .i64) := by
  have e : ups q (k + 1) = ups q k ++ [q + (k : Int)] := by simp [ups, List.range_succ]
  rw [e, List.map_append, List.map_append, List.map_append, List.set_append_right _ _ (by simp [ups_length]), List.length_map, ups_length, Nat.sub_self, List.drop_eq_getElem_cons h, List.map_cons, List.set_cons_zero, List.append_assoc]
  rfl

set_option maxHeartbeats 400000 in
/-- It writes into the block of the list alone. -/
theorem mark_any (g n cap : Nat) (base : Nat) (q : Int) (xs : List Int) (w : World) (hn : xs.length = n) (q0 : 0 ≤ q) (q1 : q ≤ 4294967296) (h : OwnI w base (.slice (some ⟨g, 0, none⟩) n cap) xs) :
    Calls Tryz.prog 44 #[.slice (some ⟨g, 0, none⟩) n cap, .int .i64 q] w fun e w' => e = .returned (.int .i64 (q + (n : Int))) ∧ OwnI w' base (.slice (some ⟨g, 0, none⟩) n cap) (ups q n) ∧ w.grownBy w' (some g) := by
  subst hn
  obtain ⟨ho, hl, hb⟩ := h
  go_enter Tryz.func44, Tryz.ntmps44
  go_wp2
  go_loopw [1, 5] (fun c i wr => ∃ k : Nat, k ≤ xs.length ∧ i = .int .i64 k ∧ c = .int .i64 (q + (k : Int)) ∧ wr.ownsRow base 2 1 (.slice (some ⟨g, 0, none⟩) xs.length cap) xs.length (((ups q k) ++ xs.drop k).map (Value.int .i64)) ∧ w.grownBy wr (some g)) (fun _ i _ => xs.length - (intOf i).toNat)
  case atStart =>
    refine ⟨0, Nat.zero_le _, rfl, by simp, by simpa [ups] using ho, ⟨rfl, rfl, rfl, Nat.le_refl _, fun _ _ _ => rfl⟩⟩
  case round =>
    obtain ⟨k, hk, rfl, rfl, hr, hf⟩ := hrel
    by_cases hlt : k < xs.length
    · have hfz := hr.frozenAt k
      have hce := hr.cellAt k (by omega)
      have hst := hr.stored k (.int .i64 (q + (k : Int)))
      rw [mark_step xs q k hlt] at hst
      obtain ⟨u, hu⟩ : ∃ u, ((((ups q k) ++ xs.drop k).map (Value.int .i64)))[k]? = some u := ⟨_, List.getElem?_eq_getElem (by simp [ups_length]; omega)⟩
      rw [hu] at hce
      clear hu ho
      go_wp2
      go_roundw
      case rel =>
        refine ⟨k + 1, by omega, by go_num, by simp; omega, hst.1, ?_⟩
        exact ⟨hst.2.os.trans hf.os, hst.2.tape.trans hf.tape, hst.2.output.trans hf.output, Nat.le_trans hf.size hst.2.size, fun i hi hne => (hst.2.block i (Nat.lt_of_lt_of_le hi hf.size) hne).trans (hf.block i hi hne)⟩
      case measure => simp [intOf]; omega
    · go_wp2
      go_ret
      have hkn : k = xs.length := by omega
      subst hkn
      refine ⟨rfl, ⟨?_, by simpa [ups_length] using hl, ?_⟩, hf⟩
      · simpa [ups_length] using hr
      · intro x hx
        simp only [ups, List.mem_map, List.mem_range] at hx
        obtain ⟨j, hj, rfl⟩ := hx
        exact ⟨by omega, by omega⟩

set_option maxHeartbeats 400000 in
theorem held_any (ao : Option Addr) (n cap : Nat) (q : Int) (w : World) (q0 : 0 ≤ q) (q1 : q ≤ 4294967296) (h : Reads w ao (ups q n)) :
    Calls Tryz.prog 45 #[.slice ao n cap, .int .i64 q] w fun e w' => e = .returned (.int .i64 (q + (n : Int))) ∧ w' = w := by
  have hl : n ≤ 4294967296 := by have := h.len; rwa [ups_length] at this
  go_enter Tryz.func45, Tryz.ntmps45
  go_wp2
  go_loop [1, 5] (fun c i => ∃ k : Nat, k ≤ n ∧ i = .int .i64 k ∧ c = .int .i64 (q + (k : Int))) (fun _ i => n - (intOf i).toNat)
  case atStart => exact ⟨0, Nat.zero_le _, rfl, by simp⟩
  case round =>
    obtain ⟨k, hk, rfl, rfl⟩ := hrel
    by_cases hlt : k < n
    · obtain ⟨b, off, rfl, hc⟩ := h.at_ k (by rwa [ups_length])
      have hck := hc k (by rwa [ups_length])
      rw [List.getD_eq_getElem?_getD, ups_at q n k hlt, Option.getD_some] at hck
      clear hc
      go_wp2
      go_round
      case rel => exact ⟨k + 1, by omega, by go_num, by simp; omega⟩
      case measure => simp [intOf]; omega
    · go_wp2
      go_ret
      have hkn : k = n := by omega
      subst hkn
      exact ⟨rfl, rfl⟩
end Go.Proofs.YthehhiccfnhinaaGreatDoor
