/-
  inOrder: a board's map as a list, by rising numbers.
-/
import Derived.Test.YtikjodbboljhjaaGreatDoorPackAN
import Derived.Test.YtikjodbboljhjaaGreatDoorPackAI
import Derived.Test.YtikjodbboljhjaaGreatDoorPackAA
import Derived.Maps.AppendAt
import Derived.Test.YtikjodbboljhjaaGreatDoorPackAH
import Derived.Deep.RegionHeld3
import Derived.Test.YtikjodbboljhjaaGreatDoorPackAG
namespace Go.Proofs.YtikjodbboljhjaaGreatDoor
open Go.RowKit


theorem appC2 (w : World) {ops : Array Oper} {rest : List Oper} {o : Oper} {a : Act} {Q : Exit → Act → World → Prop} (hgd : o.guard = none) (s x : Operand)
    (ho : o.op = .call { callee := .builtin .append, args := #[s, x], argTypes := #[25, 25] }) (base : Nat) (v : Value) (xs : List Ch) (e : Ch) (hs : a.eval s = v)
    (hown : OwnG layC w base v xs) (hx : a.eval x = .slice (some ⟨w.heap.size, 0, none⟩) 1 1) (hlen : xs.length ≤ 16777215) (hbase : base ≤ w.heap.size)
    (h : ∀ v' w', OwnG layC w' base v' (xs ++ [e]) → (w.alloc (.cells #[.int .i64 e.o, .int .i64 e.cap, .int .i64 e.sent, .int .i64 e.got, .bool e.cl] 82)).grownBy w' v.ownBlock → (v'.ownBlock = v.ownBlock ∨ v'.ownBlock = some (w.heap.size + 1)) → wpList Tryz.prog ops Q rest (a.put o.dst v') w') :
    wpList Tryz.prog ops Q (o :: rest) a (w.alloc (.cells #[.int .i64 e.o, .int .i64 e.cap, .int .i64 e.sent, .int .i64 e.got, .bool e.cl] 82)) :=
  appG layC _ hgd s x _ _ _ ho Tryz.underlying25 Tryz.infoC rfl (by decide) base v xs e hs (hown.fr (Fr.alloc _ _)) _ _ hx (newC w e) hlen (Nat.le_trans hbase (Fr.alloc w _).size) (fun v' w' a b c => h v' w' a b (by simpa using c))

set_option maxRecDepth 20000 in
set_option maxHeartbeats 2000000 in
theorem ordC_any (mb n : Nat) (f : Int → Option Value) (xs : List Ch) (w : World) (M : MapF w mb n f) (hr : (xs.map Ch.o).Pairwise (· < ·)) (hk : ∀ o, o ∈ xs.map Ch.o ↔ (f o).isSome = true) (hv : ∀ j (hj : j < xs.length), f (Ch.o xs[j]) = some (valC xs[j])) (hi : ∀ o ∈ xs.map Ch.o, I64 o) (hn : n ≤ 4000000) (hl : xs.length ≤ 1048576) :
    Calls Tryz.prog 101 #[.map (some mb)] w fun e w' => ∃ v, e = .returned v ∧ OwnG layC w' w.heap.size v xs ∧ Fr w w' := by
  have fE := Fr.alloc w (.cells #[] 82)
  have cK := keysC_any mb (w.alloc (.cells #[] 82))
  have cS := sortedC_any mb n f (xs.map Ch.o) (w.alloc (.cells #[] 82)) (M.fr fE) hr hk hi hn
  have hL : ∀ j (hj : j < xs.length) u, Fr w u → (Instr.lookup 128 (.map (some mb)) (.int .i64 (Ch.o xs[j])) false).run Tryz.prog u = .ok (valC xs[j]) u := fun j hj u fu => by
    rw [(M.fr fu).look Tryz.underlying128 (zeroC u) (hi _ (List.mem_map_of_mem (List.getElem_mem hj))), hv j hj]
    rfl
  have hlen : (xs.map Ch.o).length = xs.length := by simp
  rw [hlen] at cS
  simp only [World.size_alloc] at cS
  have HO : Hid (OwnG layC (w.alloc (.cells #[] 82)) w.heap.size (.slice (some ⟨w.heap.size, 0, none⟩) 0 0) []) := ownG_new layC w _ (Nat.le_refl _)
  clear M hr hk hv hi hlen
  go_enter Tryz.func101, Tryz.ntmps101
  go_wp2_with fail
  refine cK.mono ?_
  rintro e w1 ⟨rfl, rfl⟩
  clear cK
  go_wp2_with fail
  refine cS.mono ?_
  rintro e w2 ⟨ao, cap, rfl, R, hab, f2⟩
  clear cS
  have F2 := fE.trans f2
  have HO : Hid (OwnG layC w2 w.heap.size (.slice (some ⟨w.heap.size, 0, none⟩) 0 0) []) := HO.out.fr f2
  clear fE f2
  go_wp2_with fail
  go_loopw [3, 11] (fun u i wr => ∃ k : Nat, k ≤ xs.length ∧ i = .int .i64 k ∧ OwnG layC wr w.heap.size u (xs.take k) ∧ Fr w wr ∧ Reads wr ao (xs.map Ch.o) ∧ Hid ((∀ j, u.ownBlock = some j → blk ao ≠ some j) ∧ w2.heap.size ≤ wr.heap.size)) (fun _ i _ => xs.length - (intOf i).toNat)
  case atStart => exact ⟨0, Nat.zero_le _, rfl, HO.out, F2, R, ⟨fun j hj q => by have := (hab j q).1; simp only [Value.ownBlock, Option.some.injEq] at hj; omega, Nat.le_refl _⟩⟩
  case round =>
    clear HO
    obtain ⟨k, hk, rfl, ho, hf, R, HU⟩ := hrel
    have hs := hf.size
    by_cases hlt : k < xs.length
    · have Rk := R
      obtain ⟨b, off, rfl, hc⟩ := Rk.at_ k (by simpa using hlt)
      have hck := hc k (by simpa using hlt)
      rw [getD_at (by simpa using hlt), List.getElem_map] at hck
      clear hc Rk
      have hLk := hL k hlt wr hf
      have HS : Hid (xs.take (k + 1) = xs.take k ++ [xs[k]]) := List.take_succ_eq_append_getElem hlt
      have hln : (xs.take k).length ≤ k := by simp; omega
      obtain ⟨e, he⟩ : ∃ e, e = xs[k] := ⟨_, rfl⟩
      rw [← he] at hck hLk HS
      clear he
      have HA := Fr.alloc wr (.cells #[.int .i64 e.o, .int .i64 e.cap, .int .i64 e.sent, .int .i64 e.got, .bool e.cl] 82)
      have HR : Hid (∀ w4, (wr.alloc (.cells #[.int .i64 e.o, .int .i64 e.cap, .int .i64 e.sent, .int .i64 e.got, .bool e.cl] 82)).grownBy w4 u3.ownBlock → Fr w w4 ∧ Reads w4 (some ⟨b, off, none⟩) (xs.map Ch.o) ∧ w2.heap.size ≤ w4.heap.size) := fun w4 g => ⟨(hf.trans HA).then g ho.blk, (R.fr HA).keep g (.inr (fun q => by
        cases hq : u3.ownBlock with
        | none => rw [hq] at q; simp [blk] at q
        | some j => rw [hq] at q; exact HU.out.1 j hq q)), by have := g.size; have := HA.size; have := HU.out.2; omega⟩
      have hw2 := HU.out.2
      have hb2 := hab b rfl
      have HU := HU.out.1
      obtain ⟨zo, zc, zs, zg, zl⟩ := e
      simp only [valC] at hck hLk HA HR
      clear HA R
      have HU : Hid (∀ j, u3.ownBlock = some j → blk (some (⟨b, off, none⟩ : Addr)) ≠ some j) := HU
      go_wp2_with (at_builtin; refine appC2 _ rfl _ _ rfl w.heap.size u3 (xs.take k) ⟨zo, zc, zs, zg, zl⟩ rfl ho rfl (by omega) hs ?_; intro v4 w4 hv4 hg4 hat4)
      obtain ⟨r1, r2, r3⟩ := HR.out w4 hg4
      go_roundw
      case rel =>
        refine ⟨k + 1, by omega, by go_num, by rw [HS.out]; exact hv4, r1, r2, ⟨fun j hj => ?_, r3⟩⟩
        rcases hat4 with q | q
        · rw [q] at hj; exact HU.out j hj
        · rw [q] at hj
          simp only [Option.some.injEq] at hj
          simp only [blk, Option.map_some, ne_eq, Option.some.injEq]
          omega
      case measure => simp [intOf]; omega
    · have e : xs.take k = xs := List.take_of_length_le (by omega)
      rw [e] at ho
      have HOX : Hid (OwnG layC wr w.heap.size u3 xs) := ho
      clear e ho
      go_wp2_with fail
      go_ret
      exact ⟨_, rfl, HOX.out, hf⟩

theorem appN2 (w : World) {ops : Array Oper} {rest : List Oper} {o : Oper} {a : Act} {Q : Exit → Act → World → Prop} (hgd : o.guard = none) (s x : Operand)
    (ho : o.op = .call { callee := .builtin .append, args := #[s, x], argTypes := #[26, 26] }) (base : Nat) (v : Value) (xs : List Ct) (e : Ct) (hs : a.eval s = v)
    (hown : OwnG layN w base v xs) (hx : a.eval x = .slice (some ⟨w.heap.size, 0, none⟩) 1 1) (hlen : xs.length ≤ 16777215) (hbase : base ≤ w.heap.size)
    (h : ∀ v' w', OwnG layN w' base v' (xs ++ [e]) → (w.alloc (.cells #[.int .i64 e.o, .int .i64 e.n] 85)).grownBy w' v.ownBlock → (v'.ownBlock = v.ownBlock ∨ v'.ownBlock = some (w.heap.size + 1)) → wpList Tryz.prog ops Q rest (a.put o.dst v') w') :
    wpList Tryz.prog ops Q (o :: rest) a (w.alloc (.cells #[.int .i64 e.o, .int .i64 e.n] 85)) :=
  appG layN _ hgd s x _ _ _ ho Tryz.underlying26 Tryz.infoN rfl (by decide) base v xs e hs (hown.fr (Fr.alloc _ _)) _ _ hx (newN w e) hlen (Nat.le_trans hbase (Fr.alloc w _).size) (fun v' w' a b c => h v' w' a b (by simpa using c))

set_option maxRecDepth 20000 in
set_option maxHeartbeats 2000000 in
theorem ordN_any (mb n : Nat) (f : Int → Option Value) (xs : List Ct) (w : World) (M : MapF w mb n f) (hr : (xs.map Ct.o).Pairwise (· < ·)) (hk : ∀ o, o ∈ xs.map Ct.o ↔ (f o).isSome = true) (hv : ∀ j (hj : j < xs.length), f (Ct.o xs[j]) = some (valN xs[j])) (hi : ∀ o ∈ xs.map Ct.o, I64 o) (hn : n ≤ 4000000) (hl : xs.length ≤ 1048576) :
    Calls Tryz.prog 102 #[.map (some mb)] w fun e w' => ∃ v, e = .returned v ∧ OwnG layN w' w.heap.size v xs ∧ Fr w w' := by
  have fE := Fr.alloc w (.cells #[] 85)
  have cK := keysN_any mb (w.alloc (.cells #[] 85))
  have cS := sortedN_any mb n f (xs.map Ct.o) (w.alloc (.cells #[] 85)) (M.fr fE) hr hk hi hn
  have hL : ∀ j (hj : j < xs.length) u, Fr w u → (Instr.lookup 131 (.map (some mb)) (.int .i64 (Ct.o xs[j])) false).run Tryz.prog u = .ok (valN xs[j]) u := fun j hj u fu => by
    rw [(M.fr fu).look Tryz.underlying131 (zeroN u) (hi _ (List.mem_map_of_mem (List.getElem_mem hj))), hv j hj]
    rfl
  have hlen : (xs.map Ct.o).length = xs.length := by simp
  rw [hlen] at cS
  simp only [World.size_alloc] at cS
  have HO : Hid (OwnG layN (w.alloc (.cells #[] 85)) w.heap.size (.slice (some ⟨w.heap.size, 0, none⟩) 0 0) []) := ownG_new layN w _ (Nat.le_refl _)
  clear M hr hk hv hi hlen
  go_enter Tryz.func102, Tryz.ntmps102
  go_wp2_with fail
  refine cK.mono ?_
  rintro e w1 ⟨rfl, rfl⟩
  clear cK
  go_wp2_with fail
  refine cS.mono ?_
  rintro e w2 ⟨ao, cap, rfl, R, hab, f2⟩
  clear cS
  have F2 := fE.trans f2
  have HO : Hid (OwnG layN w2 w.heap.size (.slice (some ⟨w.heap.size, 0, none⟩) 0 0) []) := HO.out.fr f2
  clear fE f2
  go_wp2_with fail
  go_loopw [3, 11] (fun u i wr => ∃ k : Nat, k ≤ xs.length ∧ i = .int .i64 k ∧ OwnG layN wr w.heap.size u (xs.take k) ∧ Fr w wr ∧ Reads wr ao (xs.map Ct.o) ∧ Hid ((∀ j, u.ownBlock = some j → blk ao ≠ some j) ∧ w2.heap.size ≤ wr.heap.size)) (fun _ i _ => xs.length - (intOf i).toNat)
  case atStart => exact ⟨0, Nat.zero_le _, rfl, HO.out, F2, R, ⟨fun j hj q => by have := (hab j q).1; simp only [Value.ownBlock, Option.some.injEq] at hj; omega, Nat.le_refl _⟩⟩
  case round =>
    clear HO
    obtain ⟨k, hk, rfl, ho, hf, R, HU⟩ := hrel
    have hs := hf.size
    by_cases hlt : k < xs.length
    · have Rk := R
      obtain ⟨b, off, rfl, hc⟩ := Rk.at_ k (by simpa using hlt)
      have hck := hc k (by simpa using hlt)
      rw [getD_at (by simpa using hlt), List.getElem_map] at hck
      clear hc Rk
      have hLk := hL k hlt wr hf
      have HS : Hid (xs.take (k + 1) = xs.take k ++ [xs[k]]) := List.take_succ_eq_append_getElem hlt
      have hln : (xs.take k).length ≤ k := by simp; omega
      obtain ⟨e, he⟩ : ∃ e, e = xs[k] := ⟨_, rfl⟩
      rw [← he] at hck hLk HS
      clear he
      have HA := Fr.alloc wr (.cells #[.int .i64 e.o, .int .i64 e.n] 85)
      have HR : Hid (∀ w4, (wr.alloc (.cells #[.int .i64 e.o, .int .i64 e.n] 85)).grownBy w4 u3.ownBlock → Fr w w4 ∧ Reads w4 (some ⟨b, off, none⟩) (xs.map Ct.o) ∧ w2.heap.size ≤ w4.heap.size) := fun w4 g => ⟨(hf.trans HA).then g ho.blk, (R.fr HA).keep g (.inr (fun q => by
        cases hq : u3.ownBlock with
        | none => rw [hq] at q; simp [blk] at q
        | some j => rw [hq] at q; exact HU.out.1 j hq q)), by have := g.size; have := HA.size; have := HU.out.2; omega⟩
      have hw2 := HU.out.2
      have hb2 := hab b rfl
      have HU := HU.out.1
      obtain ⟨zo, zc⟩ := e
      simp only [valN] at hck hLk HA HR
      clear HA R
      have HU : Hid (∀ j, u3.ownBlock = some j → blk (some (⟨b, off, none⟩ : Addr)) ≠ some j) := HU
      go_wp2_with (at_builtin; refine appN2 _ rfl _ _ rfl w.heap.size u3 (xs.take k) ⟨zo, zc⟩ rfl ho rfl (by omega) hs ?_; intro v4 w4 hv4 hg4 hat4)
      obtain ⟨r1, r2, r3⟩ := HR.out w4 hg4
      go_roundw
      case rel =>
        refine ⟨k + 1, by omega, by go_num, by rw [HS.out]; exact hv4, r1, r2, ⟨fun j hj => ?_, r3⟩⟩
        rcases hat4 with q | q
        · rw [q] at hj; exact HU.out j hj
        · rw [q] at hj
          simp only [Option.some.injEq] at hj
          simp only [blk, Option.map_some, ne_eq, Option.some.injEq]
          omega
      case measure => simp [intOf]; omega
    · have e : xs.take k = xs := List.take_of_length_le (by omega)
      rw [e] at ho
      have HOX : Hid (OwnG layN wr w.heap.size u3 xs) := ho
      clear e ho
      go_wp2_with fail
      go_ret
      exact ⟨_, rfl, HOX.out, hf⟩

theorem appL2 (w : World) {ops : Array Oper} {rest : List Oper} {o : Oper} {a : Act} {Q : Exit → Act → World → Prop} (hgd : o.guard = none) (s x : Operand)
    (ho : o.op = .call { callee := .builtin .append, args := #[s, x], argTypes := #[24, 24] }) (base : Nat) (v : Value) (xs : List Lv) (e : Lv) (hs : a.eval s = v)
    (hown : OwnG layL w base v xs) (hx : a.eval x = .slice (some ⟨w.heap.size, 0, none⟩) 1 1) (hlen : xs.length ≤ 16777215) (hbase : base ≤ w.heap.size)
    (h : ∀ v' w', OwnG layL w' base v' (xs ++ [e]) → (w.alloc (.cells #[.int .i64 e.o, .int .i64 e.wr, .slice e.ro e.rn e.rc] 47)).grownBy w' v.ownBlock → (v'.ownBlock = v.ownBlock ∨ v'.ownBlock = some (w.heap.size + 1)) → wpList Tryz.prog ops Q rest (a.put o.dst v') w') :
    wpList Tryz.prog ops Q (o :: rest) a (w.alloc (.cells #[.int .i64 e.o, .int .i64 e.wr, .slice e.ro e.rn e.rc] 47)) :=
  appG layL _ hgd s x _ _ _ ho Tryz.underlying24 Tryz.infoL rfl (by decide) base v xs e hs (hown.fr (Fr.alloc _ _)) _ _ hx (newL w e) hlen (Nat.le_trans hbase (Fr.alloc w _).size) (fun v' w' a b c => h v' w' a b (by simpa using c))

set_option maxRecDepth 20000 in
set_option maxHeartbeats 2000000 in
theorem ordL_any (mb n : Nat) (f : Int → Option Value) (xs : List Lv) (w : World) (M : MapF w mb n f) (hr : (xs.map Lv.o).Pairwise (· < ·)) (hk : ∀ o, o ∈ xs.map Lv.o ↔ (f o).isSome = true) (hv : ∀ j (hj : j < xs.length), f (Lv.o xs[j]) = some (valL xs[j])) (hi : ∀ o ∈ xs.map Lv.o, I64 o) (hn : n ≤ 4000000) (hl : xs.length ≤ 1048576) :
    Calls Tryz.prog 100 #[.map (some mb)] w fun e w' => ∃ v, e = .returned v ∧ OwnG layL w' w.heap.size v xs ∧ Fr w w' := by
  have fE := Fr.alloc w (.cells #[] 47)
  have cK := keysL_any mb (w.alloc (.cells #[] 47))
  have cS := sortedL_any mb n f (xs.map Lv.o) (w.alloc (.cells #[] 47)) (M.fr fE) hr hk hi hn
  have hL : ∀ j (hj : j < xs.length) u, Fr w u → (Instr.lookup 125 (.map (some mb)) (.int .i64 (Lv.o xs[j])) false).run Tryz.prog u = .ok (valL xs[j]) u := fun j hj u fu => by
    rw [(M.fr fu).look Tryz.underlying125 (zeroL u) (hi _ (List.mem_map_of_mem (List.getElem_mem hj))), hv j hj]
    rfl
  have hlen : (xs.map Lv.o).length = xs.length := by simp
  rw [hlen] at cS
  simp only [World.size_alloc] at cS
  have HO : Hid (OwnG layL (w.alloc (.cells #[] 47)) w.heap.size (.slice (some ⟨w.heap.size, 0, none⟩) 0 0) []) := ownG_new layL w _ (Nat.le_refl _)
  clear M hr hk hv hi hlen
  go_enter Tryz.func100, Tryz.ntmps100
  go_wp2_with fail
  refine cK.mono ?_
  rintro e w1 ⟨rfl, rfl⟩
  clear cK
  go_wp2_with fail
  refine cS.mono ?_
  rintro e w2 ⟨ao, cap, rfl, R, hab, f2⟩
  clear cS
  have F2 := fE.trans f2
  have HO : Hid (OwnG layL w2 w.heap.size (.slice (some ⟨w.heap.size, 0, none⟩) 0 0) []) := HO.out.fr f2
  clear fE f2
  go_wp2_with fail
  go_loopw [3, 11] (fun u i wr => ∃ k : Nat, k ≤ xs.length ∧ i = .int .i64 k ∧ OwnG layL wr w.heap.size u (xs.take k) ∧ Fr w wr ∧ Reads wr ao (xs.map Lv.o) ∧ Hid ((∀ j, u.ownBlock = some j → blk ao ≠ some j) ∧ w2.heap.size ≤ wr.heap.size)) (fun _ i _ => xs.length - (intOf i).toNat)
  case atStart => exact ⟨0, Nat.zero_le _, rfl, HO.out, F2, R, ⟨fun j hj q => by have := (hab j q).1; simp only [Value.ownBlock, Option.some.injEq] at hj; omega, Nat.le_refl _⟩⟩
  case round =>
    clear HO
    obtain ⟨k, hk, rfl, ho, hf, R, HU⟩ := hrel
    have hs := hf.size
    by_cases hlt : k < xs.length
    · have Rk := R
      obtain ⟨b, off, rfl, hc⟩ := Rk.at_ k (by simpa using hlt)
      have hck := hc k (by simpa using hlt)
      rw [getD_at (by simpa using hlt), List.getElem_map] at hck
      clear hc Rk
      have hLk := hL k hlt wr hf
      have HS : Hid (xs.take (k + 1) = xs.take k ++ [xs[k]]) := List.take_succ_eq_append_getElem hlt
      have hln : (xs.take k).length ≤ k := by simp; omega
      obtain ⟨e, he⟩ : ∃ e, e = xs[k] := ⟨_, rfl⟩
      rw [← he] at hck hLk HS
      clear he
      have HA := Fr.alloc wr (.cells #[.int .i64 e.o, .int .i64 e.wr, .slice e.ro e.rn e.rc] 47)
      have HR : Hid (∀ w4, (wr.alloc (.cells #[.int .i64 e.o, .int .i64 e.wr, .slice e.ro e.rn e.rc] 47)).grownBy w4 u3.ownBlock → Fr w w4 ∧ Reads w4 (some ⟨b, off, none⟩) (xs.map Lv.o) ∧ w2.heap.size ≤ w4.heap.size) := fun w4 g => ⟨(hf.trans HA).then g ho.blk, (R.fr HA).keep g (.inr (fun q => by
        cases hq : u3.ownBlock with
        | none => rw [hq] at q; simp [blk] at q
        | some j => rw [hq] at q; exact HU.out.1 j hq q)), by have := g.size; have := HA.size; have := HU.out.2; omega⟩
      have hw2 := HU.out.2
      have hb2 := hab b rfl
      have HU := HU.out.1
      obtain ⟨zo, zc, zr, zn, zk⟩ := e
      simp only [valL] at hck hLk HA HR
      clear HA R
      have HU : Hid (∀ j, u3.ownBlock = some j → blk (some (⟨b, off, none⟩ : Addr)) ≠ some j) := HU
      go_wp2_with (at_builtin; refine appL2 _ rfl _ _ rfl w.heap.size u3 (xs.take k) ⟨zo, zc, zr, zn, zk⟩ rfl ho rfl (by omega) hs ?_; intro v4 w4 hv4 hg4 hat4)
      obtain ⟨r1, r2, r3⟩ := HR.out w4 hg4
      go_roundw
      case rel =>
        refine ⟨k + 1, by omega, by go_num, by rw [HS.out]; exact hv4, r1, r2, ⟨fun j hj => ?_, r3⟩⟩
        rcases hat4 with q | q
        · rw [q] at hj; exact HU.out j hj
        · rw [q] at hj
          simp only [Option.some.injEq] at hj
          simp only [blk, Option.map_some, ne_eq, Option.some.injEq]
          omega
      case measure => simp [intOf]; omega
    · have e : xs.take k = xs := List.take_of_length_le (by omega)
      rw [e] at ho
      have HOX : Hid (OwnG layL wr w.heap.size u3 xs) := ho
      clear e ho
      go_wp2_with fail
      go_ret
      exact ⟨_, rfl, HOX.out, hf⟩
end Go.Proofs.YtikjodbboljhjaaGreatDoor
/-
  'append' on a slice of int64 that the call owns, with where the new one lies.
-/
namespace Go.Proofs.YtikjodbboljhjaaGreatDoor
open Go.RowKit

theorem appI2 (w : World) {ops : Array Oper} {rest : List Oper} {o : Oper} {a : Act} {Q : Exit → Act → World → Prop} (hgd : o.guard = none) (s x : Operand)
    (ho : o.op = .call { callee := .builtin .append, args := #[s, x], argTypes := #[27, 27] })
    (base : Nat) (v : Value) (xs news : List Int) (hs : a.eval s = v) (hown : OwnS w base v xs)
    (ao : Option Addr) (m c : Nat) (hx : a.eval x = .slice ao m c) (hm : news.length = m) (hc : ao = none → c = 0) (hnews : Reads w ao news)
    (hlen : xs.length + news.length ≤ 4294967296) (hbase : base ≤ w.heap.size)
    (h : ∀ v' w', OwnS w' base v' (xs ++ news) → w.grownBy w' v.ownBlock → (v'.ownBlock = v.ownBlock ∨ v'.ownBlock = some w.heap.size) → wpList Tryz.prog ops Q rest (a.put o.dst v') w') : wpList Tryz.prog ops Q (o :: rest) a w := by
  obtain ⟨i0, hi, hz0, hz1, hz2⟩ := info_parts Tryz.info2
  subst hm
  have hbd : ∀ x ∈ xs ++ news, I64 x := by
    obtain ⟨g, cap, rfl, ho⟩ := hown
    intro x hx
    rcases List.mem_append.1 hx with hx | hx
    · exact ho.2.2 x hx
    · exact hnews.bd x hx
  cases ao with
  | none =>
    have hnil : news = [] := by
      cases news with
      | nil => rfl
      | cons y ys => obtain ⟨b, off, e, _⟩ := hnews.at_ 0 (by simp); cases e
    subst hnil
    have := hc rfl
    subst this
    obtain ⟨g, cap, rfl, ho'⟩ := hown
    refine wpList_append_own_none hgd s x 27 ho base 2 i0 1 Tryz.underlying27 hi _ _ _ hs ho'.1 hx ?_
    refine h _ w ?_ ⟨rfl, rfl, rfl, Nat.le_refl _, fun _ _ _ => rfl⟩ (.inl rfl)
    rw [List.append_nil]
    exact ⟨g, cap, rfl, ho'⟩
  | some ad =>
    have hcell : ∀ j u, (news.map (Value.int .i64))[j]? = some u → w.cell? (ad.add j) = some u := by
      intro j u hu
      have hj : j < news.length := by
        have := (List.getElem?_eq_some_iff.1 hu).1
        simpa using this
      obtain ⟨b, off, e, hcc⟩ := hnews.at_ j hj
      simp only [Option.some.injEq] at e
      subst e
      rw [Addr.add_lit, hcc j hj]
      rw [List.getElem?_map, List.getElem?_eq_getElem hj] at hu
      rw [getD_at hj]
      simpa using hu
    obtain ⟨g, cap, rfl, ho'⟩ := hown
    refine wpList_append_own_at w hgd s x 27 ho base 2 i0 (.int .i64 0) 1 8 Tryz.underlying27 hi hz0 hz1 hz2 rfl (by decide) _ _ _ hs ho'.1 ad news.length c (news.map (Value.int .i64)) hx (by simp) hcell (ints_oneCell _ _) (by unfold maxLen; omega) (by omega) hbase ?_
    intro v' w' hv hg hnz hat
    refine h v' w' (shape_of ?_ ?_ (by simp; omega) hbd) hg hat
    · simpa using hv
    · intro e
      have := (hnz.1 e).1
      simp at this
end Go.Proofs.YtikjodbboljhjaaGreatDoor
/-
  inOrder of numbers.
-/
namespace Go.Proofs.YtikjodbboljhjaaGreatDoor
open Go.RowKit

set_option maxRecDepth 20000 in
set_option maxHeartbeats 2000000 in
theorem ordI_any (mb n : Nat) (f : Int → Option Value) (xs : List Int) (w : World) (M : MapF w mb n f) (hr : xs.Pairwise (· < ·)) (hk : ∀ o, o ∈ xs ↔ (f o).isSome = true) (hv : ∀ j (hj : j < xs.length), f xs[j] = some (valI xs[j])) (hi : ∀ o ∈ xs, I64 o) (hn : n ≤ 4000000) (hl : xs.length ≤ 1048576) :
    Calls Tryz.prog 103 #[.map (some mb)] w fun e w' => ∃ v, e = .returned v ∧ OwnS w' w.heap.size v xs ∧ Fr w w' := by
  have fE := Fr.alloc w (.cells #[] 2)
  have cK := keysI_any mb (w.alloc (.cells #[] 2))
  have cS := sortedI_any mb n f xs (w.alloc (.cells #[] 2)) (M.fr fE) hr hk hi hn
  have hL : ∀ j (hj : j < xs.length) u, Fr w u → (Instr.lookup 134 (.map (some mb)) (.int .i64 xs[j]) false).run Tryz.prog u = .ok (.int .i64 xs[j]) u := fun j hj u fu => by
    rw [(M.fr fu).look Tryz.underlying134 (zeroI u) (hi _ (List.getElem_mem hj)), hv j hj]
    rfl
  simp only [World.size_alloc] at cS
  have HO : Hid (OwnS (w.alloc (.cells #[] 2)) w.heap.size (.slice (some ⟨w.heap.size, 0, none⟩) 0 0) []) := own_empty w _ (Nat.le_refl _)
  clear M hr hk hv
  go_enter Tryz.func103, Tryz.ntmps103
  go_wp2_with fail
  refine cK.mono ?_
  rintro e w1 ⟨rfl, rfl⟩
  clear cK
  go_wp2_with fail
  refine cS.mono ?_
  rintro e w2 ⟨ao, cap, rfl, R, hab, f2⟩
  clear cS
  have F2 := fE.trans f2
  have HO : Hid (OwnS w2 w.heap.size (.slice (some ⟨w.heap.size, 0, none⟩) 0 0) []) := HO.out.fr f2
  clear fE f2
  go_wp2_with fail
  go_loopw [3, 11] (fun u i wr => ∃ k : Nat, k ≤ xs.length ∧ i = .int .i64 k ∧ OwnS wr w.heap.size u (xs.take k) ∧ Fr w wr ∧ Reads wr ao xs ∧ Hid ((∀ j, u.ownBlock = some j → blk ao ≠ some j) ∧ w2.heap.size ≤ wr.heap.size)) (fun _ i _ => xs.length - (intOf i).toNat)
  case atStart => exact ⟨0, Nat.zero_le _, rfl, HO.out, F2, R, ⟨fun j hj q => by have := (hab j q).1; simp only [Value.ownBlock, Option.some.injEq] at hj; omega, Nat.le_refl _⟩⟩
  case round =>
    clear HO
    obtain ⟨k, hk, rfl, ho, hf, R, HU⟩ := hrel
    have hs := hf.size
    by_cases hlt : k < xs.length
    · have Rk := R
      obtain ⟨b, off, rfl, hc⟩ := Rk.at_ k hlt
      have hck := hc k hlt
      rw [getD_at hlt] at hck
      clear hc Rk
      have hI := hi _ (List.getElem_mem hlt)
      have hLk := hL k hlt wr hf
      have HS : Hid (xs.take (k + 1) = xs.take k ++ [xs[k]]) := List.take_succ_eq_append_getElem hlt
      have hln : (xs.take k).length ≤ k := by simp; omega
      obtain ⟨z, hz⟩ : ∃ z, z = xs[k] := ⟨_, rfl⟩
      rw [← hz] at hck hLk HS hI
      clear hz
      have HA := Fr.alloc wr (.cells #[.int .i64 z] 2)
      have HR : Hid (∀ w4, (wr.alloc (.cells #[.int .i64 z] 2)).grownBy w4 u3.ownBlock → Fr w w4 ∧ Reads w4 (some ⟨b, off, none⟩) xs ∧ w2.heap.size ≤ w4.heap.size) := fun w4 g => ⟨(hf.trans HA).then g ho.blk, (R.fr HA).keep g (.inr (fun q => by
        cases hq : u3.ownBlock with
        | none => rw [hq] at q; simp [blk] at q
        | some j => rw [hq] at q; exact HU.out.1 j hq q)), by have := g.size; have := HA.size; have := HU.out.2; omega⟩
      have hw2 := HU.out.2
      have hb2 := hab b rfl
      have HU := HU.out.1
      clear HA R
      have HU : Hid (∀ j, u3.ownBlock = some j → blk (some (⟨b, off, none⟩ : Addr)) ≠ some j) := HU
      have hm := reads_one wr z hI
      go_wp2_with (at_builtin; refine appI2 _ rfl _ _ rfl w.heap.size _ _ [z] rfl (ho.fr (Fr.alloc _ _)) _ _ _ rfl rfl (by simp) hm (by simp; omega) (by simp; omega) ?_; intro v4 w4 hv4 hg4 hat4)
      obtain ⟨r1, r2, r3⟩ := HR.out w4 hg4
      go_roundw
      case rel =>
        refine ⟨k + 1, by omega, by go_num, by rw [HS.out]; exact hv4, r1, r2, ⟨fun j hj => ?_, r3⟩⟩
        rcases hat4 with q | q
        · rw [q] at hj; exact HU.out j hj
        · rw [q] at hj
          simp only [Option.some.injEq, World.size_alloc] at hj
          simp only [blk, Option.map_some, ne_eq, Option.some.injEq]
          omega
      case measure => simp [intOf]; omega
    · have e : xs.take k = xs := List.take_of_length_le (by omega)
      rw [e] at ho
      have HOX : Hid (OwnS wr w.heap.size u3 xs) := ho
      clear e ho
      go_wp2_with fail
      go_ret
      exact ⟨_, rfl, HOX.out, hf⟩
end Go.Proofs.YtikjodbboljhjaaGreatDoor
/-
  What a board holds, as lists; the locks' loop of the board's scene.
-/
namespace Go.Proofs.YtikjodbboljhjaaGreatDoor
open Go.RowKit

theorem find_of_mem {α : Type} (key : α → Int) : ∀ (xs : List α), (xs.map key).Pairwise (· < ·) → ∀ x ∈ xs, xs.find? (fun y => key y == key x) = some x
  | [], _, x, hx => by simp at hx
  | y :: ys, h, x, hx => by
    rw [List.map_cons, List.pairwise_cons] at h
    rcases List.mem_cons.1 hx with rfl | hx
    · rw [List.find?_cons]; simp
    · have h1 := h.1 _ (List.mem_map_of_mem hx)
      rw [List.find?_cons, show (key y == key x) = false by simp; omega]
      exact find_of_mem key ys h.2 x hx
theorem mem_find {α : Type} (key : α → Int) (o : Int) (xs : List α) : o ∈ xs.map key ↔ (xs.find? (fun y => key y == o)).isSome = true := by
  rw [List.find?_isSome, List.mem_map]
  constructor
  · rintro ⟨x, hx, rfl⟩; exact ⟨x, hx, by simp⟩
  · rintro ⟨x, hx, e⟩; exact ⟨x, hx, by simpa using e⟩
theorem lvs_of {B : Nat → Prop} {w : World} {fl : Int → Option Value} : ∀ (ls : List Lk), (∀ l ∈ ls, ∃ lv, fl l.o = some (valL lv) ∧ LkR B w lv l) → ∃ lvs, LksR B w lvs ls ∧ ∀ lv ∈ lvs, fl lv.o = some (valL lv)
  | [], _ => ⟨[], LksR.nil _ _, by simp⟩
  | l :: ls, h => by
    obtain ⟨lv, h1, h2⟩ := h l (List.mem_cons_self ..)
    obtain ⟨lvs, h3, h4⟩ := lvs_of ls fun x hx => h x (List.mem_cons_of_mem _ hx)
    refine ⟨lv :: lvs, ⟨by simp [h3.len], fun j q1 q2 => ?_⟩, fun x hx => ?_⟩
    · cases j with
      | zero => exact h2
      | succ j => exact h3.at_ j (by simpa using q1) (by simpa using q2)
    · rcases List.mem_cons.1 hx with rfl | hx
      · rw [h2.o]; exact h1
      · exact h4 x hx
/-- The locks that a board holds. -/
theorem BoardW.lks {lo : Nat × Nat} {w : World} {b b1 b2 b3 b4 n : Nat} {m : Scn} (h : BoardW lo w b b1 b2 b3 b4 n m) (hm : scB m = true) : ∃ fl lvs, MapF w b1 n fl ∧ LksR (Off lo) w lvs m.ls ∧ (∀ j (hj : j < lvs.length), fl lvs[j].o = some (valL lvs[j])) ∧ (∀ o, o ∈ lvs.map Lv.o ↔ (fl o).isSome = true) := by
  obtain ⟨fl, M, hf⟩ := h.m1
  have hr := (sc_rise hm).1
  obtain ⟨lvs, h1, h2⟩ := lvs_of (B := Off lo) (w := w) (fl := fl) m.ls (fun l hl => by
    have h3 := find_of_mem Lk.o m.ls hr l hl
    rcases hf l.o with ⟨q, _⟩ | ⟨lk, lv, q1, q2, q3⟩
    · rw [q] at h3; cases h3
    · rw [q1] at h3; cases h3; exact ⟨lv, q2, q3⟩)
  refine ⟨fl, lvs, M, h1, fun j hj => h2 _ (List.getElem_mem hj), fun o => ?_⟩
  rw [lk_os _ _ h1, mem_find]
  rcases hf o with ⟨q, q2⟩ | ⟨lk, lv, q1, q2, q3⟩
  · rw [q, q2]; simp
  · rw [q1, q2]; simp

/-- A new Readers slice written into the lock at k. -/
theorem reads_setR {w : World} {g k : Nat} {ys : List Lv} {ao : Option Addr} {rn rc : Nat} (h : ReadsG layL w (some ⟨g, 0, none⟩) ys) (hk : k < ys.length) :
    ReadsG layL (w.setCell ⟨g, k * 3 + 2, none⟩ (.slice ao rn rc)) (some ⟨g, 0, none⟩) (ys.set k { ys[k] with ro := ao, rn := rn, rc := rc }) := by
  refine ⟨by simpa using h.len, fun i hi => ⟨g, 0, rfl, fun j hj q hq => ?_⟩⟩
  obtain ⟨b, off, e, hc⟩ := h.at_ k hk
  simp only [Option.some.injEq, Addr.mk.injEq, and_true] at e
  obtain ⟨rfl, rfl⟩ := e
  have hj' : j < ys.length := by simpa using hj
  have hq' : q < 3 := hq
  have h0 := hc j hj' q hq
  have hsz : layL.sz = 3 := rfl
  by_cases hjk : j = k
  · subst hjk
    by_cases hq2 : q = 2
    · subst hq2
      have : (0 + j * layL.sz + 2) = j * 3 + 2 := by rw [hsz]; omega
      rw [this] at h0 ⊢
      rw [World.cell?_setCell_same' _ _ _ (by rw [h0]; rfl)]
      simp [layL]
    · have : (0 + j * layL.sz + q) ≠ j * 3 + 2 := by rw [hsz]; omega
      have hne : (⟨g, 0 + j * layL.sz + q, none⟩ : Addr) ≠ ⟨g, j * 3 + 2, none⟩ := fun e => this (by injection e)
      rw [World.cell?_setCell_other _ _ _ _ hne.symm, h0, List.getElem_set_self]
      have : q = 0 ∨ q = 1 := by omega
      rcases this with rfl | rfl <;> rfl
  · have : (0 + j * layL.sz + q) ≠ k * 3 + 2 := by rw [hsz]; omega
    have hne : (⟨g, 0 + j * layL.sz + q, none⟩ : Addr) ≠ ⟨g, k * 3 + 2, none⟩ := fun e => this (by injection e)
    rw [World.cell?_setCell_other _ _ _ _ hne.symm, h0, List.getElem_set_ne (fun e => hjk e.symm)]

/-- In the midst of the locks' loop: the first k have Readers of their own. -/
structure LX (w wr : World) (g k : Nat) (lvs ys : List Lv) (ls : List Lk) : Prop where
  fr : Fr w wr
  ge : w.heap.size ≤ g
  row : ∃ cur, wr.heap[g]? = some (.cells cur 47 (0, 0))
  rd : ReadsG layL wr (some ⟨g, 0, none⟩) ys
  len : ys.length = ls.length
  new : ∀ j (h1 : j < ys.length) (h2 : j < ls.length), j < k → LkR (fun x => w.heap.size < x ∧ x < wr.heap.size ∧ x ≠ g) wr ys[j] ls[j]
  old : ∀ j (h1 : j < ys.length) (h2 : j < lvs.length), k ≤ j → ys[j] = lvs[j]
theorem LX.glt {w wr : World} {g k : Nat} {lvs ys : List Lv} {ls : List Lk} (h : LX w wr g k lvs ys ls) : g < wr.heap.size := by
  obtain ⟨cur, hc⟩ := h.row
  exact (Array.getElem?_eq_some_iff.1 hc).1
theorem LX.grow {w wr w' : World} {g k : Nat} {lvs ys : List Lv} {ls : List Lk} (h : LX w wr g k lvs ys ls) (f : Fr wr w') : LX w w' g k lvs ys ls := by
  obtain ⟨cur, hc⟩ := h.row
  have hs := f.size
  exact ⟨h.fr.trans f, h.ge, ⟨cur, (f.block g h.glt (by simp)).trans hc⟩, h.rd.fr f, h.len, fun j h1 h2 hk => ((h.new j h1 h2 hk).fr f).mono (fun x q => ⟨q.1, by omega, q.2.2⟩), h.old⟩
theorem LX.put {w wr : World} {g k g2 c2 : Nat} {lvs ys : List Lv} {ls : List Lk} (h : LX w wr g k lvs ys ls) (hk : k < ys.length) (hk2 : k < ls.length) (hk3 : k < lvs.length) (hL : LkR (fun _ => True) wr lvs[k] ls[k]) (R : Reads wr (some ⟨g2, 0, none⟩) ls[k].rd) (hg2 : w.heap.size < g2 ∧ g2 < wr.heap.size ∧ g2 ≠ g) :
    LX w (wr.setCell ⟨g, k * 3 + 2, none⟩ (.slice (some ⟨g2, 0, none⟩) ls[k].rd.length c2)) g (k + 1) lvs (ys.set k { ys[k] with ro := some ⟨g2, 0, none⟩, rn := ls[k].rd.length, rc := c2 }) ls := by
  obtain ⟨cur, hc⟩ := h.row
  have ks := grown_set wr g (k * 3 + 2) (.slice (some ⟨g2, 0, none⟩) ls[k].rd.length c2)
  have hs := ks.size
  have he := h.old k hk (by omega) (Nat.le_refl _)
  have hg := h.ge
  refine ⟨h.fr.then ks (fun j hj => by simp only [Option.some.injEq] at hj; omega), hg, ⟨_, heap_setCell_same wr g (k * 3 + 2) _ _ _ hc⟩, reads_setR h.rd hk, by simpa using h.len, fun j h1 h2 hj => ?_, fun j h1 h2 hj => ?_⟩
  · by_cases e : j = k
    · subst e
      rw [List.getElem_set_self]
      refine ⟨by simp only [he]; exact hL.o, by simp only [he]; exact hL.wr, rfl, R.keep ks (.inr (by simp [blk]; omega)), fun b q => ?_, fun q => by simp at q, hL.sz, hL.io, hL.iw⟩
      simp only [blk, Option.map_some, Option.some.injEq] at q
      subst q
      exact ⟨hg2.1, by omega, hg2.2.2⟩
    · rw [List.getElem_set_ne (fun q => e q.symm)]
      exact ((h.new j (by simpa using h1) h2 (by omega)).keep ks (fun x hx => by cases hx; exact fun q => q.2.2 rfl)).mono (fun x q => ⟨q.1, by omega, q.2.2⟩)
  · rw [List.getElem_set_ne (by omega)]
    exact h.old j (by simpa using h1) h2 (by omega)
end Go.Proofs.YtikjodbboljhjaaGreatDoor
/-
  The board's scene.
-/
namespace Go.Proofs.YtikjodbboljhjaaGreatDoor
open Go.RowKit

set_option maxRecDepth 20000 in
set_option maxHeartbeats 4000000 in
theorem scene_any {lo : Nat × Nat} {b b1 b2 b3 b4 n : Nat} {m : Scn} (w : World) (h : BoardW lo w b b1 b2 b3 b4 n m) (hm : scB m = true) (hn : n ≤ 4000000) :
    Calls Tryz.prog 41 #[.pointer (some ⟨b, 0, none⟩)] w fun e w' => ∃ s : Sv, e = .returned (.agg #[.int .i64 s.g, .slice s.lo s.ll s.lc, .slice s.co s.cl s.cc, .slice s.no s.nl s.nc, .slice s.oo s.ol s.oc]) ∧ ScR (fun x => w.heap.size ≤ x ∧ x < w'.heap.size) w' s m ∧ Fr w w' := by
  obtain ⟨fl, lvs, M1, hLk, hv1, hk1⟩ := h.lks hm
  obtain ⟨r1, r2, r3, r4⟩ := sc_rise hm
  have HSC := (scB_iff m).1 hm
  have f0 := Fr.alloc w (.cells #[.int .i64 0, .slice none 0 0, .slice none 0 0, .slice none 0 0, .slice none 0 0] 29)
  have k0 := ScK.new w ⟨0, none, 0, 0, none, 0, 0, none, 0, 0, none, 0, 0⟩
  simp only at k0
  have hlen : ∀ (xs : List Int), xs.Pairwise (· < ·) → (∀ x ∈ xs, 0 ≤ x ∧ x ≤ 15) → xs.length ≤ 16 := fun xs q1 q2 => by
    have := rise_len xs 0 15 q1 q2 (by omega)
    omega
  have o1 : ∀ x ∈ m.ls.map Lk.o, 0 ≤ x ∧ x ≤ 15 := fun x hx => by
    obtain ⟨l, hl, rfl⟩ := List.mem_map.1 hx
    exact ((lkB_iff _ _).1 (HSC.2.1.1 l hl)).2.1
  have o2 : ∀ x ∈ m.cs.map Ch.o, 0 ≤ x ∧ x ≤ 15 := fun x hx => by
    obtain ⟨l, hl, rfl⟩ := List.mem_map.1 hx
    exact (chB_in (HSC.2.2.1.1 l hl)).1
  have o3 : ∀ x ∈ m.gs.map Ct.o, 0 ≤ x ∧ x ≤ 15 := fun x hx => by
    obtain ⟨l, hl, rfl⟩ := List.mem_map.1 hx
    exact (ctB_in (HSC.2.2.2.1.1 l hl)).1
  have o4 := HSC.2.2.2.2.1
  have n1 : lvs.length ≤ 16 := by have := hlen _ r1 o1; rw [hLk.len]; simpa using this
  have n2 : m.cs.length ≤ 16 := by simpa using hlen _ r2 o2
  have n3 : m.gs.length ≤ 16 := by simpa using hlen _ r3 o3
  have n4 : m.os.length ≤ 16 := hlen _ r4 o4
  have cL := fun u (f : Fr w u) => ordL_any b1 n fl lvs u (M1.fr f) (by rw [lk_os _ _ hLk]; exact r1) hk1 hv1 (fun o ho => by rw [lk_os _ _ hLk] at ho; exact i64_small (by have := o1 o ho; omega)) hn (by omega)
  have cC := fun u (f : Fr w u) => ordC_any b2 n _ m.cs u (h.m2.fr f) r2 (fun o => by rw [mem_find]; simp) (fun j hj => by rw [find_of_mem Ch.o m.cs r2 _ (List.getElem_mem hj)]; rfl) (fun o ho => i64_small (by have := o2 o ho; omega)) hn (by omega)
  have cN := fun u (f : Fr w u) => ordN_any b3 n _ m.gs u (h.m3.fr f) r3 (fun o => by rw [mem_find]; simp) (fun j hj => by rw [find_of_mem Ct.o m.gs r3 _ (List.getElem_mem hj)]; rfl) (fun o ho => i64_small (by have := o3 o ho; omega)) hn (by omega)
  have cI := fun u (f : Fr w u) => ordI_any b4 n _ m.os u (h.m4.fr f) r4 (fun o => by simp only [find_self]; by_cases q : o ∈ m.os <;> simp [q]) (fun j hj => by simp only [find_self]; rw [if_pos (List.getElem_mem hj)]; rfl) (fun o ho => i64_small (by have := o4 o ho; omega)) hn (by omega)
  have HC : Hid (∀ u, Fr w u → u.cell? ⟨b, 0, none⟩ = some (.int .i64 m.g) ∧ u.cell? ⟨b, 1, none⟩ = some (.map (some b1)) ∧ u.cell? ⟨b, 2, none⟩ = some (.map (some b2)) ∧ u.cell? ⟨b, 3, none⟩ = some (.map (some b3)) ∧ u.cell? ⟨b, 4, none⟩ = some (.map (some b4))) := fun u f => ⟨f.cell h.toM.c0, f.cell h.toM.c1, f.cell h.toM.c2, f.cell h.toM.c3, f.cell h.toM.c4⟩
  have HG : Hid (I64 m.g) := i64_small (by have := HSC.1; omega)
  have HIC : Hid (∀ c ∈ m.cs, I64 c.o ∧ I64 c.cap ∧ I64 c.sent ∧ I64 c.got) := fun c hc => by
    have := chB_in (HSC.2.2.1.1 c hc)
    exact ⟨i64_small (by omega), i64_small (by omega), i64_small (by omega), i64_small (by omega)⟩
  have HIN : Hid (∀ c ∈ m.gs, I64 c.o ∧ I64 c.n) := fun c hc => by
    have := ctB_in (HSC.2.2.2.1.1 c hc)
    exact ⟨i64_small (by omega), i64_small (by omega)⟩
  have hblt := h.blt
  clear h hm M1 hv1 hk1 HSC o1 o2 o3 o4 r1 r2 r3 r4 hlen
  obtain ⟨c0, c1, c2, c3, c4⟩ := HC.out _ f0
  go_enter Tryz.func41, Tryz.ntmps41
  go_wp2_with fail
  obtain ⟨W, hW⟩ : ∃ W, W = w.alloc (.cells #[.int .i64 0, .slice none 0 0, .slice none 0 0, .slice none 0 0, .slice none 0 0] 29) := ⟨_, rfl⟩
  rw [← hW] at f0 k0 c0 c1 c2 c3 c4 ⊢
  obtain ⟨rb, hrb⟩ : ∃ rb, rb = w.heap.size := ⟨_, rfl⟩
  rw [← hrb] at k0 ⊢
  have HRB : Hid (rb = w.heap.size) := hrb
  have hrbb : rb ≠ b := by omega
  clear hW hrb
  refine (cL W f0).mono ?_
  rintro x w1 ⟨v1, rfl, O1, f1⟩
  obtain ⟨g1, cap1, rfl, O1, hl1⟩ := O1
  clear c0 c1 c2 c3 c4 cL
  have F1 := f0.trans f1
  have k1 := k0.fr f1
  have hX : LX w w1 g1 0 lvs lvs m.ls := by
    have hb := O1.lt g1 rfl
    rcases O1.2 with ⟨e, _⟩ | ⟨g', cap', cur, e, -, hc, -⟩
    · cases e
    · cases e
      refine ⟨F1, by have := f0.size; omega, ⟨cur, hc⟩, own_readsG O1 (by omega), hLk.len, fun j _ _ q => by omega, fun j _ _ _ => rfl⟩
  have hgr : g1 ≠ rb := by
    have := O1.lt g1 rfl
    have := k0.lt
    omega
  clear f0 k0 f1 O1
  go_wp2_with fail
  go_loopw [13] (fun i wr => ∃ (k : Nat) (ys : List Lv), k ≤ lvs.length ∧ i = .int .i64 k ∧ LX w wr g1 k lvs ys m.ls ∧ ScK wr rb ⟨0, none, 0, 0, none, 0, 0, none, 0, 0, none, 0, 0⟩) (fun i _ => lvs.length - (intOf i).toNat)
  case atStart => exact ⟨0, lvs, Nat.zero_le _, rfl, hX, k1⟩
  case round =>
    clear hX k1
    obtain ⟨k, ys, hk, rfl, hX, k1⟩ := hrel
    by_cases hlt : k < lvs.length
    · have hy : k < ys.length := by rw [hX.len, ← hLk.len]; exact hlt
      have hls : k < m.ls.length := by rw [← hLk.len]; exact hlt
      have he := hX.old k hy hlt (Nat.le_refl _)
      obtain ⟨bq, off, e0, d0, d1, d2⟩ := lv_at hX.rd k hy
      simp only [Option.some.injEq, Addr.mk.injEq, and_true] at e0
      obtain ⟨rfl, rfl⟩ := e0
      rw [he] at d0 d1 d2
      simp only [Nat.zero_add] at d0 d1 d2
      have hLR := (hLk.at_ k hlt hls).fr hX.fr
      have HPUT : Hid (∀ u g2 c2, Fr wr u → Reads u (some ⟨g2, 0, none⟩) m.ls[k].rd → (wr.heap.size ≤ g2 ∧ g2 < u.heap.size) → LX w (u.setCell ⟨g1, k * 3 + 2, none⟩ (.slice (some ⟨g2, 0, none⟩) m.ls[k].rd.length c2)) g1 (k + 1) lvs (ys.set k { ys[k] with ro := some ⟨g2, 0, none⟩, rn := m.ls[k].rd.length, rc := c2 }) m.ls) := fun u g2 c2 fu R q => by
        have hg := hX.glt
        have hs := hX.ge
        exact (hX.grow fu).put hy hls hlt (((hLk.at_ k hlt hls).fr (hX.fr.trans fu)).mono (fun _ _ => trivial)) R ⟨by omega, by omega, by omega⟩
      have HFZ : Hid (∀ u, Fr wr u → u.frozen? ⟨g1, k * 3 + 2, none⟩ = false ∧ ∃ x, u.cell? ⟨g1, k * 3 + 2, none⟩ = some x) := fun u fu => by
        obtain ⟨cur, hc⟩ := (hX.grow fu).row
        exact ⟨frozen_of_row u g1 _ _ _ hc, _, fu.cell d2⟩
      have hrn := hLR.rn
      have hrd := hLR.rd
      have hrc := hLR.rc
      have hrs := hLR.sz
      obtain ⟨rd, hrdd⟩ : ∃ rd, rd = m.ls[k].rd := ⟨_, rfl⟩
      rw [← hrdd] at hrn hrd hrs HPUT
      clear hrdd hLR he
      obtain ⟨e, hee⟩ : ∃ e, e = lvs[k] := ⟨_, rfl⟩
      rw [← hee] at d0 d1 d2 hrn hrd hrc
      clear hee
      obtain ⟨zo, zw, zr, zn, zk⟩ := e
      simp only at d0 d1 d2 hrn hrd hrc
      subst hrn
      have fA := Fr.alloc wr (.cells #[.int .i64 zo, .int .i64 zw, .slice zr rd.length zk] 47)
      have fB := Fr.alloc (wr.alloc (.cells #[.int .i64 zo, .int .i64 zw, .slice zr rd.length zk] 47)) (.cells #[] 2)
      have hO := own_empty (wr.alloc (.cells #[.int .i64 zo, .int .i64 zw, .slice zr rd.length zk] 47)) wr.heap.size (by simp)
      have hR := hrd.fr (fA.trans fB)
      have fAB := fA.trans fB
      simp only [World.size_alloc] at hO
      clear fA fB hrd
      go_wp2_with (at_builtin; refine appI _ rfl _ _ rfl wr.heap.size _ _ rd rfl hO zr rd.length zk rfl rfl hrc hR (by simp; omega) (by simp; omega) ?_; intro v4 w4 hv4 hg4; have fu : Fr wr w4 := fAB.then hg4 hO.blk; have hb4 := hv4.blk; obtain ⟨g2, c2, rfl, ho4⟩ := hv4; have hb4 := hb4 g2 rfl; obtain ⟨z1, z2, z3⟩ := HFZ.out w4 fu)
      go_roundw
      case rel => exact ⟨k + 1, _, by omega, by go_num, HPUT.out w4 g2 c2 fu (by simpa using ho4.reads) ⟨hb4, (ho4.1.lt g2 rfl).2⟩, (k1.fr fu).keep (grown_set _ _ _ _) (by simpa using fun q => hgr q)⟩
      case measure => simp [intOf]; omega
    · have hke : k = lvs.length := by omega
      have HLK : Hid (LksR (fun x => w.heap.size < x ∧ x < wr.heap.size ∧ x ≠ g1) wr ys m.ls ∧ ReadsG layL wr (some ⟨g1, 0, none⟩) ys ∧ lvs.length = ys.length) := ⟨⟨hX.len, fun j h1 h2 => hX.new j h1 h2 (by rw [hke, hLk.len]; exact h2)⟩, hX.rd, by rw [hX.len, hLk.len]⟩
      have hgl := hX.glt
      have hge := hX.ge
      have FW := hX.fr
      clear hX hLk
      subst hke
      have HK : Hid (∀ u, Fr wr u → ScK u rb ⟨0, none, 0, 0, none, 0, 0, none, 0, 0, none, 0, 0⟩) := fun u f => k1.fr f
      have hrl := k1.lt
      obtain ⟨mg, hmg⟩ : ∃ g, g = m.g := ⟨_, rfl⟩
      rw [← hmg] at HC
      have HMG : Hid (mg = m.g) := hmg
      clear hmg k1
      obtain ⟨c0, c1, c2, c3, c4⟩ := HC.out wr FW
      have fD := FW.trans (Fr.drew wr)
      go_wp2_with fail
      go_region_held3 (fun u => u.cell? ⟨b, 0, none⟩ = some (.int .i64 mg) ∧ u.cell? ⟨b, 1, none⟩ = some (.map (some b1)) ∧ u.cell? ⟨b, 2, none⟩ = some (.map (some b2)) ∧ u.cell? ⟨b, 3, none⟩ = some (.map (some b3)) ∧ u.cell? ⟨b, 4, none⟩ = some (.map (some b4))) (go_keep)
        (first | (go_at_call 101; refine (cC _ fD).mono ?_; rintro x u1 ⟨v1, rfl, O1, f1⟩; have q1 := (Fr.drew wr).trans f1; obtain ⟨p0, p1, p2, p3, p4⟩ := HC.out _ (FW.trans q1); obtain ⟨ga, ca, rfl, O1, hla⟩ := O1) | (go_at_call 102; refine (cN _ (FW.trans q1)).mono ?_; rintro x u2 ⟨v2, rfl, O2, f2⟩; have q2 := q1.trans f2; obtain ⟨s0, s1, s2, s3, s4⟩ := HC.out _ (FW.trans q2); obtain ⟨gb, cb, rfl, O2, hlb⟩ := O2) | (go_at_call 103; refine (cI _ (FW.trans q2)).mono ?_; rintro x u3 ⟨v3, rfl, O3, f3⟩; have q3 := q2.trans f3; obtain ⟨t0, t1, t2, t3, t4⟩ := HC.out _ (FW.trans q3); obtain ⟨gc, cc, rfl, O3⟩ := O3; obtain ⟨j0, j1, j2, j3, j4⟩ := (HK.out u3 q3).at; simp only at j0 j1 j2 j3 j4; have jf := fun i => (HK.out u3 q3).free i))
      clear c0 c1 c2 c3 c4 p0 p1 p2 p3 p4 s0 s1 s2 s3 s4 t0 t1 t2 t3 t4
      go_wp2_with fail
      have ta := O1.lt ga rfl
      have tb := O2.lt gb rfl
      have tc := O3.1.lt gc rfl
      have k5 := put5 u3 rb (.int .i64 mg) (.slice (some ⟨g1, 0, none⟩) lvs.length cap1) (.slice (some ⟨ga, 0, none⟩) m.cs.length ca) (.slice (some ⟨gb, 0, none⟩) m.gs.length cb) (.slice (some ⟨gc, 0, none⟩) m.os.length cc)
      have z1 := f1.size
      have z2 := f2.size
      have z3 := f3.size
      have z5 := k5.size
      have z6 := FW.size
      have zd : wr.drew.heap.size = wr.heap.size := rfl
      have FK : Fr w u3 := FW.trans q3
      have HRB := HRB.out
      obtain ⟨l1, l2, l3⟩ := HLK.out
      have R1 := own_readsG O1 hla
      have R2 := own_readsG O2 hlb
      have R3 := O3.reads
      refine bodyPost_ret (v := .agg #[.int .i64 mg, .slice (some ⟨g1, 0, none⟩) lvs.length cap1, .slice (some ⟨ga, 0, none⟩) m.cs.length ca, .slice (some ⟨gb, 0, none⟩) m.gs.length cb, .slice (some ⟨gc, 0, none⟩) m.os.length cc]) (by simp [results, Tryz.results41, go_sem, j0, j1, j2, j3, j4]) rfl ⟨⟨mg, some ⟨g1, 0, none⟩, lvs.length, cap1, some ⟨ga, 0, none⟩, m.cs.length, ca, some ⟨gb, 0, none⟩, m.gs.length, cb, some ⟨gc, 0, none⟩, m.os.length, cc⟩, rfl, ?_, FK.then k5 (fun j hj => by simp only [Option.some.injEq] at hj; omega)⟩
      have ll := l1.len
      exact { g := HMG.out, ig := HG.out, lks := ⟨ys, (l2.fr q3).keep k5 (.inr (by simp [blk]; omega)), l3, ⟨ll, fun j h1 h2 => (((l1.at_ j h1 h2).fr q3).keep k5 (fun x hx => by cases hx; exact fun q => by omega)).mono (fun x q => ⟨by omega, by omega⟩)⟩⟩,
              chs := (R1.fr (f2.trans f3)).keep k5 (.inr (by simp [blk]; omega)), cl := rfl, cts := (R2.fr f3).keep k5 (.inr (by simp [blk]; omega)), nl := rfl, ons := R3.keep k5 (.inr (by simp [blk]; omega)), ol := rfl,
              bl := fun x hx => by simp only [blk, Option.map_some, Option.some.injEq] at hx; omega, bc := fun x hx => by simp only [blk, Option.map_some, Option.some.injEq] at hx; omega, bn := fun x hx => by simp only [blk, Option.map_some, Option.some.injEq] at hx; omega, bo := fun x hx => by simp only [blk, Option.map_some, Option.some.injEq] at hx; omega,
              zo := fun q => by simp at q, sl := by omega, sc := by omega, sn := by omega, so := by omega, ic := HIC.out, inn := HIN.out }
end Go.Proofs.YtikjodbboljhjaaGreatDoor
/-
  The program's SceneAfter; legal parts of legal parts.
-/
namespace Go.Proofs.YtikjodbboljhjaaGreatDoor
open Go.RowKit

theorem leg_ok : ∀ (es : List Ev) (m : Scn), scB m = true → scB (legS m es).1 = true
  | [], m, h => h
  | e :: es, m, h => by
    by_cases q : codeIn m e = 0
    · rw [leg_go q]; exact leg_ok es _ (do_ok q)
    · rw [leg_no q]; exact h
theorem leg_len : ∀ (es : List Ev) (m : Scn), (legS m es).2.1 ≤ es.length
  | [], m => by simp [legS]
  | e :: es, m => by
    by_cases q : codeIn m e = 0
    · rw [leg_go q]
      have := leg_len es (doS m e)
      simp only [List.length_cons]
      omega
    · rw [leg_no q]; simp
/-- The code is 0 just where all is legal. -/
theorem leg_code : ∀ (es : List Ev) (m : Scn), (legS m es).2.2 = 0 ↔ (legS m es).2.1 = es.length
  | [], m => by simp [legS]
  | e :: es, m => by
    by_cases q : codeIn m e = 0
    · rw [leg_go q]
      have := leg_code es (doS m e)
      simp only [List.length_cons]
      omega
    · rw [leg_no q]
      simp [q]
/-- A first part of the legal part is legal, whole; the next event can be done. -/
theorem leg_part : ∀ (es : List Ev) (m : Scn) (k : Nat), k ≤ (legS m es).2.1 → (legS m (es.take k)).2.1 = k ∧ (legS m (es.take k)).2.2 = 0 ∧ ∀ (h : k < es.length), k < (legS m es).2.1 → codeIn (legS m (es.take k)).1 es[k] = 0
  | es, m, 0, _ => by
    simp only [List.take_zero]
    refine ⟨rfl, rfl, fun h h2 => ?_⟩
    cases es with
    | nil => simp at h
    | cons e es =>
      by_cases q : codeIn m e = 0
      · exact q
      · rw [leg_no q] at h2; simp at h2
  | [], m, k + 1, h => by simp [legS] at h
  | e :: es, m, k + 1, h => by
    by_cases q : codeIn m e = 0
    · rw [leg_go q] at h ⊢
      simp only at h
      obtain ⟨h1, h2, h3⟩ := leg_part es (doS m e) k (by omega)
      rw [List.take_succ_cons, leg_go q]
      refine ⟨by simp only; omega, h2, fun hk hk2 => ?_⟩
      simp only [List.getElem_cons_succ]
      exact h3 (by simpa using hk) (by simp only at hk2; omega)
    · rw [leg_no q] at h; simp at h

/-- The scene behind the legal part, and whether it is all of it. -/
def aftS (es : List Ev) : Scn := if 300 < es.length then ⟨0, [], [], [], []⟩ else (legS scn0 es).1
def aftB (es : List Ev) : Bool := if 300 < es.length then false else decide ((legS scn0 es).2.2 = 0)
theorem scR_zero (B : Nat → Prop) (w : World) : ScR B w ⟨0, none, 0, 0, none, 0, 0, none, 0, 0, none, 0, 0⟩ ⟨0, [], [], [], []⟩ where
  g := rfl
  ig := ⟨by decide, by decide⟩
  lks := ⟨[], ReadsG.nil _ _ _, rfl, LksR.nil _ _⟩
  chs := ReadsG.nil _ _ _
  cl := rfl
  cts := ReadsG.nil _ _ _
  nl := rfl
  ons := Reads.nil _ _
  ol := rfl
  bl := inB_none _
  bc := inB_none _
  bn := inB_none _
  bo := inB_none _
  zo _ := rfl
  sl := by simp
  sc := by simp
  sn := by simp
  so := by simp
  ic c hc := by simp at hc
  inn c hc := by simp at hc

set_option maxRecDepth 20000 in
set_option maxHeartbeats 2000000 in
theorem implAfter_any (ao : Option Addr) (n c : Nat) (es : List Ev) (w : World) (hn : es.length = n) (h : ReadsE w ao es) (hs : Shapes w) (hab : ∀ k, blk ao = some k → k < w.heap.size) :
    Calls Tryz.prog 18 #[.slice ao n c] w fun x w' => ∃ s : Sv, x = .returned (.tuple #[.agg #[.int .i64 s.g, .slice s.lo s.ll s.lc, .slice s.co s.cl s.cc, .slice s.no s.nl s.nc, .slice s.oo s.ol s.oc], .bool (aftB es)]) ∧ ScR (fun x => w.heap.size ≤ x ∧ x < w'.heap.size) w' s (aftS es) ∧ Fr w w' := by
  have f0 := Fr.alloc w (.cells #[.int .i64 0, .slice none 0 0, .slice none 0 0, .slice none 0 0, .slice none 0 0] 29)
  have k0 := ScK.new w ⟨0, none, 0, 0, none, 0, 0, none, 0, 0, none, 0, 0⟩
  simp only at k0
  have cT := fun u => isTrace_any ao n c u
  by_cases hb : es.length ≤ 300
  · have cP := legalPartOf_any ao n c es _ hn (h.fr f0) hb (hs.fr f0) (fun k hk => by have := hab k hk; have := f0.size; omega)
    have e1 : aftS es = (legS scn0 es).1 := if_neg (by omega)
    have e3 : aftB es = decide ((legS scn0 es).2.2 = 0) := if_neg (by omega)
    have e2 : decide ((n : Int) ≤ 300) = true := by simp; omega
    have HO : Hid (scB (legS scn0 es).1 = true) := leg_ok es scn0 (by decide)
    rw [e1, e3]
    simp only [e2] at cT
    clear e1 e2 e3 hb h hs hab hn
    obtain ⟨z, hz⟩ : ∃ z : Int, z = (legS scn0 es).2.1 := ⟨_, rfl⟩
    obtain ⟨q, hq⟩ : ∃ z : Int, z = (legS scn0 es).2.2 := ⟨_, rfl⟩
    obtain ⟨M, hM⟩ : ∃ z, z = (legS scn0 es).1 := ⟨_, rfl⟩
    simp only [← hz, ← hq, ← hM] at cP HO
    rw [← hq, ← hM]
    clear hz hq hM
    go_enter Tryz.func18, Tryz.ntmps18
    go_wp2_with fail
    refine (cT _).mono ?_
    rintro e u0 ⟨rfl, rfl⟩
    clear cT
    go_wp2_with fail
    refine (cP).mono ?_
    rintro e u1 ⟨lo, b, b1, b2, b3, b4, rfl, Bd, hb1, f1⟩
    have fA := Fr.alloc u1 (.cells #[.int .i64 z, .int .i64 q, .pointer (some ⟨b, 0, none⟩)] 96)
    have hP : PartAt (u1.alloc (.cells #[.int .i64 z, .int .i64 q, .pointer (some ⟨b, 0, none⟩)] 96)) u1.heap.size z q b := heap_alloc_new u1 _
    have hrl := k0.lt
    have hs1 := f1.size
    clear cP
    go_wp2_with fail
    obtain ⟨V, hV⟩ : ∃ V, V = u1.alloc (.cells #[.int .i64 z, .int .i64 q, .pointer (some ⟨b, 0, none⟩)] 96) := ⟨_, rfl⟩
    rw [← hV] at fA hP ⊢
    have hne : w.heap.size ≠ u1.heap.size := by omega
    obtain ⟨pb, hpb⟩ : ∃ pb, pb = u1.heap.size := ⟨_, rfl⟩
    rw [← hpb] at hP hne ⊢
    have hpl : w.heap.size < pb := by omega
    obtain ⟨rb, hrb⟩ : ∃ rb, rb = w.heap.size := ⟨_, rfl⟩
    rw [← hrb] at k0 hne hpl ⊢
    have HRB : Hid (rb = w.heap.size) := hrb
    have F1 := f0.trans (f1.trans fA)
    have G1 := f1.trans fA
    have k1 := k0.fr G1
    clear hV hpb hrb k0 hrl hs1
    have cS := fun u (f : Fr V u) => scene_any u ((Bd.fr fA).fr f) HO.out (by omega)
    have HQ : Hid (∀ u, Fr V u → u.cell? ⟨pb, 0, none⟩ = some (.int .i64 z) ∧ u.cell? ⟨pb, 1, none⟩ = some (.int .i64 q) ∧ u.cell? ⟨pb, 2, none⟩ = some (.pointer (some ⟨b, 0, none⟩)) ∧ ScK u rb ⟨0, none, 0, 0, none, 0, 0, none, 0, 0, none, 0, 0⟩) := fun u f => ⟨f.cell (cell_of_row V pb 0 _ _ _ hP), f.cell (cell_of_row V pb 1 _ _ _ hP), f.cell (cell_of_row V pb 2 _ _ _ hP), k1.fr f⟩
    obtain ⟨c0, c1, c2, -⟩ := HQ.out V (Fr.refl V)
    have hne2 : ¬ (rb = pb) := hne
    clear Bd hP k1 fA f1 hne
    go_region_held3 (fun u => u.cell? ⟨pb, 0, none⟩ = some (.int .i64 z) ∧ u.cell? ⟨pb, 1, none⟩ = some (.int .i64 q) ∧ u.cell? ⟨pb, 2, none⟩ = some (.pointer (some ⟨b, 0, none⟩))) (go_keep)
      (first | (go_at_call 41; refine (cS _ (Fr.drew V)).mono ?_; rintro x u3 ⟨⟨sg, lo1, ll1, lc1, co1, cl1, cc1, no1, nl1, nc1, oo1, ol1, oc1⟩, rfl, S3, f3⟩; have q3 := (Fr.drew V).trans f3; obtain ⟨p0, p1, p2, k3⟩ := HQ.out _ q3; obtain ⟨j0, j1, j2, j3, j4⟩ := k3.at; simp only at j0 j1 j2 j3 j4; have jf := fun i => k3.free i))
    clear c0 c1 c2 p0 p1 p2 k3
    have hqb : (q == 0) = decide (q = 0) := by by_cases hq0 : q = 0 <;> simp [hq0]
    have S3 : Hid _ := S3
    go_wp2_with fail
    have k5 := put5 u3 rb (.int .i64 sg) (.slice lo1 ll1 lc1) (.slice co1 cl1 cc1) (.slice no1 nl1 nc1) (.slice oo1 ol1 oc1)
    have z5 := k5.size
    have zv : rb < V.heap.size := by have := F1.size; have := f0.size; have := HRB.out; have := G1.size; simp at *; omega
    have zd : V.drew.heap.size = V.heap.size := rfl
    refine bodyPost_ret (v := .tuple #[.agg #[.int .i64 sg, .slice lo1 ll1 lc1, .slice co1 cl1 cc1, .slice no1 nl1 nc1, .slice oo1 ol1 oc1], .bool (decide (q = 0))]) (by simp [results, Tryz.results18, go_sem, j0, j1, j2, j3, j4, hqb]) rfl ⟨⟨sg, lo1, ll1, lc1, co1, cl1, cc1, no1, nl1, nc1, oo1, ol1, oc1⟩, rfl, ?_, (F1.trans q3).then k5 (fun j hj => by simp only [Option.some.injEq] at hj; have := HRB.out; omega)⟩
    exact (S3.out.keep k5 (fun x hx => by cases hx; exact fun hq => by omega)).mono (fun x hx => ⟨by have := HRB.out; omega, by omega⟩)
  · have e1 : aftS es = ⟨0, [], [], [], []⟩ := if_pos (by omega)
    have e3 : aftB es = false := if_pos (by omega)
    have e2 : decide ((n : Int) ≤ 300) = false := by simp; omega
    rw [e1, e3]
    simp only [e2] at cT
    clear e1 e2 e3 hb h hs hab hn
    obtain ⟨j0, j1, j2, j3, j4⟩ := k0.at
    simp only at j0 j1 j2 j3 j4
    have jf := fun i => k0.free i
    go_enter Tryz.func18, Tryz.ntmps18
    go_wp2_with fail
    refine (cT _).mono ?_
    rintro e u0 ⟨rfl, rfl⟩
    go_wp2_with fail
    refine bodyPost_ret (v := .tuple #[.agg #[.int .i64 0, .slice none 0 0, .slice none 0 0, .slice none 0 0, .slice none 0 0], .bool false]) (by simp [results, Tryz.results18, go_sem]) rfl ⟨⟨0, none, 0, 0, none, 0, 0, none, 0, 0, none, 0, 0⟩, rfl, scR_zero _ _, f0⟩
end Go.Proofs.YtikjodbboljhjaaGreatDoor
/-
  The program's CodeIn answers as the specification's.
-/
namespace Go.Proofs.YtikjodbboljhjaaGreatDoor
open Go.RowKit

set_option maxRecDepth 20000 in
set_option maxHeartbeats 4000000 in
theorem implCode_any {B : Nat → Prop} (s : Sv) (m : Scn) (e : Ev) (w : World) (h : ScR B w s m) (hs : Shapes w) (ho : I64 e.o) :
    Calls Tryz.prog 12 #[.agg #[.int .i64 s.g, .slice s.lo s.ll s.lc, .slice s.co s.cl s.cc, .slice s.no s.nl s.nc, .slice s.oo s.ol s.oc], .agg #[.int .i64 e.k, .int .i64 e.g, .int .i64 e.o, .int .i64 e.w, .int .i64 e.l, .int .i64 e.s, .int .i64 e.f, .int .i64 e.t]] w fun x w' => x = .returned (.int .i64 (codeIn m e)) ∧ Fr w w' := by
  obtain ⟨k1, k2, fW, hz⟩ := box2 w s e
  obtain ⟨lvs, r1, e1, l1⟩ := h.lks
  have cS := fun u (f : Fr w u) => implScene_any s m u (h.fr f)
  have cB := fun u (f : Fr w u) => boardOf_any s m lvs u (h.fr f) (r1.fr f) e1 (l1.fr f)
  have cC := fun (hm : scB m = true) u (f : Fr w u) b b1 b2 b3 b4 (Bd : Board u b m.g b1 b2 b3 b4 lvs.length m.cs.length m.gs.length m.os.length (numF Lv.o valL lvs) (numF Ch.o valC m.cs) (numF Ct.o valN m.gs) (numF id valI m.os)) => codeM_any e u (boardM_of hm (l1.fr f) h.sl h.sc h.sn h.so Bd) hm (hs.fr f) ho
  obtain ⟨FL, hFL⟩ : ∃ F, F = numF Lv.o valL lvs := ⟨_, rfl⟩
  obtain ⟨FC, hFC⟩ : ∃ F, F = numF Ch.o valC m.cs := ⟨_, rfl⟩
  obtain ⟨FN, hFN⟩ : ∃ F, F = numF Ct.o valN m.gs := ⟨_, rfl⟩
  obtain ⟨FO, hFO⟩ : ∃ F, F = numF id valI m.os := ⟨_, rfl⟩
  simp only [← hFL, ← hFC, ← hFN, ← hFO] at cB cC
  have h1 : scB m = false → codeIn m e = 1 := fun q => by simp [codeIn, q]
  clear hFL hFC hFN hFO h r1 e1 l1 hs ho
  obtain ⟨R, hR⟩ : ∃ R, R = codeIn m e := ⟨_, rfl⟩
  rw [← hR] at h1 ⊢
  simp only [← hR] at cC
  clear hR
  obtain ⟨SO, hSO⟩ : ∃ S, S = scB m := ⟨_, rfl⟩
  simp only [← hSO] at cS h1 cC
  clear hSO
  obtain ⟨k, gr, o, wi, l, sz, f, t⟩ := e
  obtain ⟨sg, lo, ll, lc, co, cl, cc, no, nl, nc, oo, ol, oc⟩ := s
  simp only at k1 k2 fW hz cS cB cC ⊢
  go_enter Tryz.func12, Tryz.ntmps12
  go_wp2_with fail
  obtain ⟨W, hW⟩ : ∃ W, W = (w.alloc (.cells #[.int .i64 sg, .slice lo ll lc, .slice co cl cc, .slice no nl nc, .slice oo ol oc] 29)).alloc (.cells #[.int .i64 k, .int .i64 gr, .int .i64 o, .int .i64 wi, .int .i64 l, .int .i64 sz, .int .i64 f, .int .i64 t] 31) := ⟨_, rfl⟩
  rw [← hW] at k1 k2 fW hz ⊢
  clear hW
  obtain ⟨A, hA⟩ : ∃ A, A = w.heap.size := ⟨_, rfl⟩
  rw [← hA] at k1 k2 ⊢
  clear hA hz
  have HQ : Hid (∀ u, Fr W u → ScB u A ⟨sg, lo, ll, lc, co, cl, cc, no, nl, nc, oo, ol, oc⟩ ∧ EvAt u (A + 1) ⟨k, gr, o, wi, l, sz, f, t⟩) := fun u f => ⟨(k1.fr f).at, (k2.keep f (by simp)).at⟩
  clear k1 k2
  refine (cS W fW).mono ?_
  rintro x u1 ⟨rfl, f1⟩
  clear cS
  cases SO
  · have e1 := h1 rfl
    clear h1 cC cB
    subst e1
    go_wp2_with fail
    go_ret
    exact ⟨rfl, fW.trans f1⟩
  have cD := cC (by trivial)
  clear cC
  clear h1
  obtain ⟨⟨s0, s1, s2, s3, s4⟩, c0, c1, c2, c3, c4, c5, c6, c7⟩ := HQ.out u1 f1
  simp only at s0 s1 s2 s3 s4 c0 c1 c2 c3 c4 c5 c6 c7
  have fD : Fr w u1.drew := (fW.trans f1).trans (Fr.drew u1)
  have gD : Fr W u1.drew := f1.trans (Fr.drew u1)
  clear f1
  go_wp2_with fail
  go_region_held3 (fun u => u.cell? ⟨A, 0, none⟩ = some (.int .i64 sg) ∧ u.cell? ⟨A, 1, none⟩ = some (.slice lo ll lc) ∧ u.cell? ⟨A, 2, none⟩ = some (.slice co cl cc) ∧ u.cell? ⟨A, 3, none⟩ = some (.slice no nl nc) ∧ u.cell? ⟨A, 4, none⟩ = some (.slice oo ol oc) ∧ u.cell? ⟨A + 1, 0, none⟩ = some (.int .i64 k) ∧ u.cell? ⟨A + 1, 1, none⟩ = some (.int .i64 gr) ∧ u.cell? ⟨A + 1, 2, none⟩ = some (.int .i64 o) ∧ u.cell? ⟨A + 1, 3, none⟩ = some (.int .i64 wi) ∧ u.cell? ⟨A + 1, 4, none⟩ = some (.int .i64 l) ∧ u.cell? ⟨A + 1, 5, none⟩ = some (.int .i64 sz) ∧ u.cell? ⟨A + 1, 6, none⟩ = some (.int .i64 f) ∧ u.cell? ⟨A + 1, 7, none⟩ = some (.int .i64 t)) (go_keep)
    (first | (go_at_call 39; refine (cB _ fD).mono ?_; rintro x u2 ⟨b, b1, b2, b3, b4, rfl, -, Bd, f2⟩; have g2 := gD.trans f2; obtain ⟨⟨p0, p1, p2, p3, p4⟩, q0, q1, q2, q3, q4, q5, q6, q7⟩ := HQ.out _ g2; simp only at p0 p1 p2 p3 p4 q0 q1 q2 q3 q4 q5 q6 q7) | (go_at_call 47; refine (cD _ (fW.trans g2) b b1 b2 b3 b4 Bd).mono ?_; rintro x u3 ⟨rfl, f3⟩; have g3 := g2.trans f3; obtain ⟨⟨v0, v1, v2, v3, v4⟩, y0, y1, y2, y3, y4, y5, y6, y7⟩ := HQ.out _ g3; simp only at v0 v1 v2 v3 v4 y0 y1 y2 y3 y4 y5 y6 y7))
  go_wp2_with fail
  go_ret
  exact ⟨rfl, fW.trans g3⟩
end Go.Proofs.YtikjodbboljhjaaGreatDoor
