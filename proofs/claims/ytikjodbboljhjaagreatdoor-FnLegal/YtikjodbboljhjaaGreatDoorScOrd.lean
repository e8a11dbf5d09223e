/-
  inOrder: a board's map as a list, by rising numbers.
-/
import Derived.Test.YtikjodbboljhjaaGreatDoorScKeys
import Derived.Test.YtikjodbboljhjaaGreatDoorScSet
namespace Go.Proofs.YtikjodbboljhjaaGreatDoor
open Go.RowKit


theorem appC2 (w : World) {ops : Array Oper} {rest : List Oper} {o : Oper} {a : Act} {Q : Exit → Act → World → Prop} (hgd : o.guard = none) (s x : Operand)
    (ho : o.op = .call { callee := .builtin .append, args := #[s, x], argTypes := #[25, 25] }) (base : Nat) (v : Value) (xs : List Ch) (e : Ch) (hs : a.eval s = v)
    (hown : OwnG layC w base v xs) (hx : a.eval x = .slice (some ⟨w.heap.size, 0, none⟩) 1 1) (hlen : xs.length ≤ 16777215) (hbase : base ≤ w.heap.size)
    (h : ∀ v' w', OwnG layC w' base v' (xs ++ [e]) → (w.alloc (.cells #[.int .i64 e.o, .int .i64 e.cap, .int .i64 e.sent, .int .i64 e.got, .bool e.cl] 82)).grownBy w' v.ownBlock → (v'.ownBlock = v.ownBlock ∨ v'.ownBlock = some (w.heap.size + 1)) → wpList Tryz.prog ops Q rest (a.put o.dst v') w') :
    wpList Tryz.prog ops Q (o :: rest) a (w.alloc (.cells #[.int .i64 e.o, .int .i64 e.cap, .int .i64 e.sent, .int .i64 e.got, .bool e.cl] 82)) :=
  appG layC _ hgd s x _ _ _ ho Tryz.underlying25 Tryz.infoC rfl (by decide) base v xs e hs (hown.fr (Fr.alloc _ _)) _ _ hx (newC w e) hlen (Nat.le_trans hbase (Fr.alloc w _).size) (fun v' w' a b c => h v' w' a b (by simpa using c))

set_option maxRecDepth 20000 in
set_option maxHeartbeats 2000000 in
theorem ordC_any (mb n : Nat) (f : Int → Option Value) (xs : List Ch) (w : World) (M : MapF w mb n f) (hr : (xs.map Ch.o).Pairwise (· < ·)) (hk : ∀ o, o ∈ xs.map Ch.o ↔ (f o).isSome = true) (hv : ∀ j (hj : j < xs.length), f (Ch.o xs[j]) = some (valC xs[j])) (hi : ∀ o ∈ xs.map Ch.o, I64 o) (hn : n ≤ 4000000) (hl : xs.length ≤ 1048576) :
    Calls Tryz.prog 101 #[.map (some mb)] w fun e w' => ∃ v, e = .returned v ∧ OwnG layC w' w.heap.size v xs ∧ Fr w w' := by
  have fE := Fr.alloc w (.cells #[] 82)
  have cK := keysC_any mb (w.alloc (.cells #[] 82))
  have cS := sortedC_any mb n f (xs.map Ch.o) (w.alloc (.cells #[] 82)) (M.fr fE) hr hk hi hn
  have hL : ∀ j (hj : j < xs.length) u, Fr w u → (Instr.lookup 128 (.map (some mb)) (.int .i64 (Ch.o xs[j])) false).run Tryz.prog u = .ok (valC xs[j]) u := fun j hj u fu => by
    rw [(M.fr fu).look Tryz.underlying128 (zeroC u) (hi _ (List.mem_map_of_mem (List.getElem_mem hj))), hv j hj]
    rfl
  have hlen : (xs.map Ch.o).length = xs.length := by simp
  rw [hlen] at cS
  simp only [World.size_alloc] at cS
  have HO : Hid (OwnG layC (w.alloc (.cells #[] 82)) w.heap.size (.slice (some ⟨w.heap.size, 0, none⟩) 0 0) []) := ownG_new layC w _ (Nat.le_refl _)
  clear M hr hk hv hi hlen
  go_enter Tryz.func101, Tryz.ntmps101
  go_wp2_with fail
  refine cK.mono ?_
  rintro e w1 ⟨rfl, rfl⟩
  clear cK
  go_wp2_with fail
  refine cS.mono ?_
  rintro e w2 ⟨ao, cap, rfl, R, hab, f2⟩
  clear cS
  have F2 := fE.trans f2
  have HO : Hid (OwnG layC w2 w.heap.size (.slice (some ⟨w.heap.size, 0, none⟩) 0 0) []) := HO.out.fr f2
  clear fE f2
  go_wp2_with fail
  go_loopw [3, 11] (fun u i wr => ∃ k : Nat, k ≤ xs.length ∧ i = .int .i64 k ∧ OwnG layC wr w.heap.size u (xs.take k) ∧ Fr w wr ∧ Reads wr ao (xs.map Ch.o) ∧ Hid ((∀ j, u.ownBlock = some j → blk ao ≠ some j) ∧ w2.heap.size ≤ wr.heap.size)) (fun _ i _ => xs.length - (intOf i).toNat)
  case atStart => exact ⟨0, Nat.zero_le _, rfl, HO.out, F2, R, ⟨fun j hj q => by have := (hab j q).1; simp only [Value.ownBlock, Option.some.injEq] at hj; omega, Nat.le_refl _⟩⟩
  case round =>
    clear HO
    obtain ⟨k, hk, rfl, ho, hf, R, HU⟩ := hrel
    have hs := hf.size
    by_cases hlt : k < xs.length
    · have Rk := R
      obtain ⟨b, off, rfl, hc⟩ := Rk.at_ k (by simpa using hlt)
      have hck := hc k (by simpa using hlt)
      rw [getD_at (by simpa using hlt), List.getElem_map] at hck
      clear hc Rk
      have hLk := hL k hlt wr hf
      have HS : Hid (xs.take (k + 1) = xs.take k ++ [xs[k]]) := List.take_succ_eq_append_getElem hlt
      have hln : (xs.take k).length ≤ k := by simp; omega
      obtain ⟨e, he⟩ : ∃ e, e = xs[k] := ⟨_, rfl⟩
      rw [← he] at hck hLk HS
      clear he
      have HA := Fr.alloc wr (.cells #[.int .i64 e.o, .int .i64 e.cap, .int .i64 e.sent, .int .i64 e.got, .bool e.cl] 82)
      have HR : Hid (∀ w4, (wr.alloc (.cells #[.int .i64 e.o, .int .i64 e.cap, .int .i64 e.sent, .int .i64 e.got, .bool e.cl] 82)).grownBy w4 u3.ownBlock → Fr w w4 ∧ Reads w4 (some ⟨b, off, none⟩) (xs.map Ch.o) ∧ w2.heap.size ≤ w4.heap.size) := fun w4 g => ⟨(hf.trans HA).then g ho.blk, (R.fr HA).keep g (.inr (fun q => by
        cases hq : u3.ownBlock with
        | none => rw [hq] at q; simp [blk] at q
        | some j => rw [hq] at q; exact HU.out.1 j hq q)), by have := g.size; have := HA.size; have := HU.out.2; omega⟩
      have hw2 := HU.out.2
      have hb2 := hab b rfl
      have HU := HU.out.1
      obtain ⟨zo, zc, zs, zg, zl⟩ := e
      simp only [valC] at hck hLk HA HR
      clear HA R
      have HU : Hid (∀ j, u3.ownBlock = some j → blk (some (⟨b, off, none⟩ : Addr)) ≠ some j) := HU
      go_wp2_with (at_builtin; refine appC2 _ rfl _ _ rfl w.heap.size u3 (xs.take k) ⟨zo, zc, zs, zg, zl⟩ rfl ho rfl (by omega) hs ?_; intro v4 w4 hv4 hg4 hat4)
      obtain ⟨r1, r2, r3⟩ := HR.out w4 hg4
      go_roundw
      case rel =>
        refine ⟨k + 1, by omega, by go_num, by rw [HS.out]; exact hv4, r1, r2, ⟨fun j hj => ?_, r3⟩⟩
        rcases hat4 with q | q
        · rw [q] at hj; exact HU.out j hj
        · rw [q] at hj
          simp only [Option.some.injEq] at hj
          simp only [blk, Option.map_some, ne_eq, Option.some.injEq]
          omega
      case measure => simp [intOf]; omega
    · have e : xs.take k = xs := List.take_of_length_le (by omega)
      rw [e] at ho
      have HOX : Hid (OwnG layC wr w.heap.size u3 xs) := ho
      clear e ho
      go_wp2_with fail
      go_ret
      exact ⟨_, rfl, HOX.out, hf⟩

theorem appN2 (w : World) {ops : Array Oper} {rest : List Oper} {o : Oper} {a : Act} {Q : Exit → Act → World → Prop} (hgd : o.guard = none) (s x : Operand)
    (ho : o.op = .call { callee := .builtin .append, args := #[s, x], argTypes := #[26, 26] }) (base : Nat) (v : Value) (xs : List Ct) (e : Ct) (hs : a.eval s = v)
    (hown : OwnG layN w base v xs) (hx : a.eval x = .slice (some ⟨w.heap.size, 0, none⟩) 1 1) (hlen : xs.length ≤ 16777215) (hbase : base ≤ w.heap.size)
    (h : ∀ v' w', OwnG layN w' base v' (xs ++ [e]) → (w.alloc (.cells #[.int .i64 e.o, .int .i64 e.n] 85)).grownBy w' v.ownBlock → (v'.ownBlock = v.ownBlock ∨ v'.ownBlock = some (w.heap.size + 1)) → wpList Tryz.prog ops Q rest (a.put o.dst v') w') :
    wpList Tryz.prog ops Q (o :: rest) a (w.alloc (.cells #[.int .i64 e.o, .int .i64 e.n] 85)) :=
  appG layN _ hgd s x _ _ _ ho Tryz.underlying26 Tryz.infoN rfl (by decide) base v xs e hs (hown.fr (Fr.alloc _ _)) _ _ hx (newN w e) hlen (Nat.le_trans hbase (Fr.alloc w _).size) (fun v' w' a b c => h v' w' a b (by simpa using c))

set_option maxRecDepth 20000 in
set_option maxHeartbeats 2000000 in
theorem ordN_any (mb n : Nat) (f : Int → Option Value) (xs : List Ct) (w : World) (M : MapF w mb n f) (hr : (xs.map Ct.o).Pairwise (· < ·)) (hk : ∀ o, o ∈ xs.map Ct.o ↔ (f o).isSome = true) (hv : ∀ j (hj : j < xs.length), f (Ct.o xs[j]) = some (valN xs[j])) (hi : ∀ o ∈ xs.map Ct.o, I64 o) (hn : n ≤ 4000000) (hl : xs.length ≤ 1048576) :
    Calls Tryz.prog 102 #[.map (some mb)] w fun e w' => ∃ v, e = .returned v ∧ OwnG layN w' w.heap.size v xs ∧ Fr w w' := by
  have fE := Fr.alloc w (.cells #[] 85)
  have cK := keysN_any mb (w.alloc (.cells #[] 85))
  have cS := sortedN_any mb n f (xs.map Ct.o) (w.alloc (.cells #[] 85)) (M.fr fE) hr hk hi hn
  have hL : ∀ j (hj : j < xs.length) u, Fr w u → (Instr.lookup 131 (.map (some mb)) (.int .i64 (Ct.o xs[j])) false).run Tryz.prog u = .ok (valN xs[j]) u := fun j hj u fu => by
    rw [(M.fr fu).look Tryz.underlying131 (zeroN u) (hi _ (List.mem_map_of_mem (List.getElem_mem hj))), hv j hj]
    rfl
  have hlen : (xs.map Ct.o).length = xs.length := by simp
  rw [hlen] at cS
  simp only [World.size_alloc] at cS
  have HO : Hid (OwnG layN (w.alloc (.cells #[] 85)) w.heap.size (.slice (some ⟨w.heap.size, 0, none⟩) 0 0) []) := ownG_new layN w _ (Nat.le_refl _)
  clear M hr hk hv hi hlen
  go_enter Tryz.func102, Tryz.ntmps102
  go_wp2_with fail
  refine cK.mono ?_
  rintro e w1 ⟨rfl, rfl⟩
  clear cK
  go_wp2_with fail
  refine cS.mono ?_
  rintro e w2 ⟨ao, cap, rfl, R, hab, f2⟩
  clear cS
  have F2 := fE.trans f2
  have HO : Hid (OwnG layN w2 w.heap.size (.slice (some ⟨w.heap.size, 0, none⟩) 0 0) []) := HO.out.fr f2
  clear fE f2
  go_wp2_with fail
  go_loopw [3, 11] (fun u i wr => ∃ k : Nat, k ≤ xs.length ∧ i = .int .i64 k ∧ OwnG layN wr w.heap.size u (xs.take k) ∧ Fr w wr ∧ Reads wr ao (xs.map Ct.o) ∧ Hid ((∀ j, u.ownBlock = some j → blk ao ≠ some j) ∧ w2.heap.size ≤ wr.heap.size)) (fun _ i _ => xs.length - (intOf i).toNat)
  case atStart => exact ⟨0, Nat.zero_le _, rfl, HO.out, F2, R, ⟨fun j hj q => by have := (hab j q).1; simp only [Value.ownBlock, Option.some.injEq] at hj; omega, Nat.le_refl _⟩⟩
  case round =>
    clear HO
    obtain ⟨k, hk, rfl, ho, hf, R, HU⟩ := hrel
    have hs := hf.size
    by_cases hlt : k < xs.length
    · have Rk := R
      obtain ⟨b, off, rfl, hc⟩ := Rk.at_ k (by simpa using hlt)
      have hck := hc k (by simpa using hlt)
      rw [getD_at (by simpa using hlt), List.getElem_map] at hck
      clear hc Rk
      have hLk := hL k hlt wr hf
      have HS : Hid (xs.take (k + 1) = xs.take k ++ [xs[k]]) := List.take_succ_eq_append_getElem hlt
      have hln : (xs.take k).length ≤ k := by simp; omega
      obtain ⟨e, he⟩ : ∃ e, e = xs[k] := ⟨_, rfl⟩
      rw [← he] at hck hLk HS
      clear he
      have HA := Fr.alloc wr (.cells #[.int .i64 e.o, .int .i64 e.n] 85)
      have HR : Hid (∀ w4, (wr.alloc (.cells #[.int .i64 e.o, .int .i64 e.n] 85)).grownBy w4 u3.ownBlock → Fr w w4 ∧ Reads w4 (some ⟨b, off, none⟩) (xs.map Ct.o) ∧ w2.heap.size ≤ w4.heap.size) := fun w4 g => ⟨(hf.trans HA).then g ho.blk, (R.fr HA).keep g (.inr (fun q => by
        cases hq : u3.ownBlock with
        | none => rw [hq] at q; simp [blk] at q
        | some j => rw [hq] at q; exact HU.out.1 j hq q)), by have := g.size; have := HA.size; have := HU.out.2; omega⟩
      have hw2 := HU.out.2
      have hb2 := hab b rfl
      have HU := HU.out.1
      obtain ⟨zo, zc⟩ := e
      simp only [valN] at hck hLk HA HR
      clear HA R
      have HU : Hid (∀ j, u3.ownBlock = some j → blk (some (⟨b, off, none⟩ : Addr)) ≠ some j) := HU
      go_wp2_with (at_builtin; refine appN2 _ rfl _ _ rfl w.heap.size u3 (xs.take k) ⟨zo, zc⟩ rfl ho rfl (by omega) hs ?_; intro v4 w4 hv4 hg4 hat4)
      obtain ⟨r1, r2, r3⟩ := HR.out w4 hg4
      go_roundw
      case rel =>
        refine ⟨k + 1, by omega, by go_num, by rw [HS.out]; exact hv4, r1, r2, ⟨fun j hj => ?_, r3⟩⟩
        rcases hat4 with q | q
        · rw [q] at hj; exact HU.out j hj
        · rw [q] at hj
          simp only [Option.some.injEq] at hj
          simp only [blk, Option.map_some, ne_eq, Option.some.injEq]
          omega
      case measure => simp [intOf]; omega
    · have e : xs.take k = xs := List.take_of_length_le (by omega)
      rw [e] at ho
      have HOX : Hid (OwnG layN wr w.heap.size u3 xs) := ho
      clear e ho
      go_wp2_with fail
      go_ret
      exact ⟨_, rfl, HOX.out, hf⟩

theorem appL2 (w : World) {ops : Array Oper} {rest : List Oper} {o : Oper} {a : Act} {Q : Exit → Act → World → Prop} (hgd : o.guard = none) (s x : Operand)
    (ho : o.op = .call { callee := .builtin .append, args := #[s, x], argTypes := #[24, 24] }) (base : Nat) (v : Value) (xs : List Lv) (e : Lv) (hs : a.eval s = v)
    (hown : OwnG layL w base v xs) (hx : a.eval x = .slice (some ⟨w.heap.size, 0, none⟩) 1 1) (hlen : xs.length ≤ 16777215) (hbase : base ≤ w.heap.size)
    (h : ∀ v' w', OwnG layL w' base v' (xs ++ [e]) → (w.alloc (.cells #[.int .i64 e.o, .int .i64 e.wr, .slice e.ro e.rn e.rc] 47)).grownBy w' v.ownBlock → (v'.ownBlock = v.ownBlock ∨ v'.ownBlock = some (w.heap.size + 1)) → wpList Tryz.prog ops Q rest (a.put o.dst v') w') :
    wpList Tryz.prog ops Q (o :: rest) a (w.alloc (.cells #[.int .i64 e.o, .int .i64 e.wr, .slice e.ro e.rn e.rc] 47)) :=
  appG layL _ hgd s x _ _ _ ho Tryz.underlying24 Tryz.infoL rfl (by decide) base v xs e hs (hown.fr (Fr.alloc _ _)) _ _ hx (newL w e) hlen (Nat.le_trans hbase (Fr.alloc w _).size) (fun v' w' a b c => h v' w' a b (by simpa using c))

set_option maxRecDepth 20000 in
set_option maxHeartbeats 2000000 in
theorem ordL_any (mb n : Nat) (f : Int → Option Value) (xs : List Lv) (w : World) (M : MapF w mb n f) (hr : (xs.map Lv.o).Pairwise (· < ·)) (hk : ∀ o, o ∈ xs.map Lv.o ↔ (f o).isSome = true) (hv : ∀ j (hj : j < xs.length), f (Lv.o xs[j]) = some (valL xs[j])) (hi : ∀ o ∈ xs.map Lv.o, I64 o) (hn : n ≤ 4000000) (hl : xs.length ≤ 1048576) :
    Calls Tryz.prog 100 #[.map (some mb)] w fun e w' => ∃ v, e = .returned v ∧ OwnG layL w' w.heap.size v xs ∧ Fr w w' := by
  have fE := Fr.alloc w (.cells #[] 47)
  have cK := keysL_any mb (w.alloc (.cells #[] 47))
  have cS := sortedL_any mb n f (xs.map Lv.o) (w.alloc (.cells #[] 47)) (M.fr fE) hr hk hi hn
  have hL : ∀ j (hj : j < xs.length) u, Fr w u → (Instr.lookup 125 (.map (some mb)) (.int .i64 (Lv.o xs[j])) false).run Tryz.prog u = .ok (valL xs[j]) u := fun j hj u fu => by
    rw [(M.fr fu).look Tryz.underlying125 (zeroL u) (hi _ (List.mem_map_of_mem (List.getElem_mem hj))), hv j hj]
    rfl
  have hlen : (xs.map Lv.o).length = xs.length := by simp
  rw [hlen] at cS
  simp only [World.size_alloc] at cS
  have HO : Hid (OwnG layL (w.alloc (.cells #[] 47)) w.heap.size (.slice (some ⟨w.heap.size, 0, none⟩) 0 0) []) := ownG_new layL w _ (Nat.le_refl _)
  clear M hr hk hv hi hlen
  go_enter Tryz.func100, Tryz.ntmps100
  go_wp2_with fail
  refine cK.mono ?_
  rintro e w1 ⟨rfl, rfl⟩
  clear cK
  go_wp2_with fail
  refine cS.mono ?_
  rintro e w2 ⟨ao, cap, rfl, R, hab, f2⟩
  clear cS
  have F2 := fE.trans f2
  have HO : Hid (OwnG layL w2 w.heap.size (.slice (some ⟨w.heap.size, 0, none⟩) 0 0) []) := HO.out.fr f2
  clear fE f2
  go_wp2_with fail
  go_loopw [3, 11] (fun u i wr => ∃ k : Nat, k ≤ xs.length ∧ i = .int .i64 k ∧ OwnG layL wr w.heap.size u (xs.take k) ∧ Fr w wr ∧ Reads wr ao (xs.map Lv.o) ∧ Hid ((∀ j, u.ownBlock = some j → blk ao ≠ some j) ∧ w2.heap.size ≤ wr.heap.size)) (fun _ i _ => xs.length - (intOf i).toNat)
  case atStart => exact ⟨0, Nat.zero_le _, rfl, HO.out, F2, R, ⟨fun j hj q => by have := (hab j q).1; simp only [Value.ownBlock, Option.some.injEq] at hj; omega, Nat.le_refl _⟩⟩
  case round =>
    clear HO
    obtain ⟨k, hk, rfl, ho, hf, R, HU⟩ := hrel
    have hs := hf.size
    by_cases hlt : k < xs.length
    · have Rk := R
      obtain ⟨b, off, rfl, hc⟩ := Rk.at_ k (by simpa using hlt)
      have hck := hc k (by simpa using hlt)
      rw [getD_at (by simpa using hlt), List.getElem_map] at hck
      clear hc Rk
      have hLk := hL k hlt wr hf
      have HS : Hid (xs.take (k + 1) = xs.take k ++ [xs[k]]) := List.take_succ_eq_append_getElem hlt
      have hln : (xs.take k).length ≤ k := by simp; omega
      obtain ⟨e, he⟩ : ∃ e, e = xs[k] := ⟨_, rfl⟩
      rw [← he] at hck hLk HS
      clear he
      have HA := Fr.alloc wr (.cells #[.int .i64 e.o, .int .i64 e.wr, .slice e.ro e.rn e.rc] 47)
      have HR : Hid (∀ w4, (wr.alloc (.cells #[.int .i64 e.o, .int .i64 e.wr, .slice e.ro e.rn e.rc] 47)).grownBy w4 u3.ownBlock → Fr w w4 ∧ Reads w4 (some ⟨b, off, none⟩) (xs.map Lv.o) ∧ w2.heap.size ≤ w4.heap.size) := fun w4 g => ⟨(hf.trans HA).then g ho.blk, (R.fr HA).keep g (.inr (fun q => by
        cases hq : u3.ownBlock with
        | none => rw [hq] at q; simp [blk] at q
        | some j => rw [hq] at q; exact HU.out.1 j hq q)), by have := g.size; have := HA.size; have := HU.out.2; omega⟩
      have hw2 := HU.out.2
      have hb2 := hab b rfl
      have HU := HU.out.1
      obtain ⟨zo, zc, zr, zn, zk⟩ := e
      simp only [valL] at hck hLk HA HR
      clear HA R
      have HU : Hid (∀ j, u3.ownBlock = some j → blk (some (⟨b, off, none⟩ : Addr)) ≠ some j) := HU
      go_wp2_with (at_builtin; refine appL2 _ rfl _ _ rfl w.heap.size u3 (xs.take k) ⟨zo, zc, zr, zn, zk⟩ rfl ho rfl (by omega) hs ?_; intro v4 w4 hv4 hg4 hat4)
      obtain ⟨r1, r2, r3⟩ := HR.out w4 hg4
      go_roundw
      case rel =>
        refine ⟨k + 1, by omega, by go_num, by rw [HS.out]; exact hv4, r1, r2, ⟨fun j hj => ?_, r3⟩⟩
        rcases hat4 with q | q
        · rw [q] at hj; exact HU.out j hj
        · rw [q] at hj
          simp only [Option.some.injEq] at hj
          simp only [blk, Option.map_some, ne_eq, Option.some.injEq]
          omega
      case measure => simp [intOf]; omega
    · have e : xs.take k = xs := List.take_of_length_le (by omega)
      rw [e] at ho
      have HOX : Hid (OwnG layL wr w.heap.size u3 xs) := ho
      clear e ho
      go_wp2_with fail
      go_ret
      exact ⟨_, rfl, HOX.out, hf⟩
end Go.Proofs.YtikjodbboljhjaaGreatDoor
