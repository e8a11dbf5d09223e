/-
  PutNumber, of the program and of its specification: what is put, in new memory.
-/
import Derived.Test.YtnekojcgbokhpaaDoorNum
import Derived.Test.YtnekojcgbokhpaaDoorBytesApp
import Derived.Test.YtnekojcgbokhpaaDoorRange
namespace Go.Proofs.YtnekojcgbokhpaaDoor
open Go.RowKit

/-- A block of bytes. -/
def isB (w : World) (b : Nat) : Prop := ∃ cur fz, w.heap[b]? = some (.cells cur 5 fz)
/-- What lies below base, and what is no block of bytes, stays. -/
structure FrB (base : Nat) (w w' : World) : Prop where
  os : w'.os = w.os
  tape : w'.tape = w.tape
  output : w'.output = w.output
  size : w.heap.size ≤ w'.heap.size
  block : ∀ b, b < w.heap.size → (b < base ∨ ¬ isB w b) → w'.heap[b]? = w.heap[b]?

theorem FrB.refl (base : Nat) (w : World) : FrB base w w := ⟨rfl, rfl, rfl, Nat.le_refl _, fun _ _ _ => rfl⟩
theorem Fr.toB {w w' : World} (base : Nat) (h : Fr w w') : FrB base w w' := ⟨h.os, h.tape, h.output, h.size, fun b hb _ => h.block b hb (by simp)⟩
theorem FrB.trans {base : Nat} {a b c : World} (h : FrB base a b) (k : FrB base b c) : FrB base a c := by
  refine ⟨k.os.trans h.os, k.tape.trans h.tape, k.output.trans h.output, Nat.le_trans h.size k.size, fun i hi hb => ?_⟩
  have h1 := h.block i hi hb
  rw [← h1]
  refine k.block i (Nat.lt_of_lt_of_le hi h.size) (hb.imp id fun hn => ?_)
  rintro ⟨cur, fz, e⟩
  exact hn ⟨cur, fz, by rw [← h1]; exact e⟩
theorem FrB.lower {base base' : Nat} {w w' : World} (h : FrB base w w') (hb : base' ≤ base) : FrB base' w w' :=
  ⟨h.os, h.tape, h.output, h.size, fun i hi hx => h.block i hi (hx.imp (fun q => by omega) id)⟩
/-- Where all that was there lies below base. -/
theorem Fr.thenB {a b c : World} {base : Nat} (h : Fr a b) (k : FrB base b c) (hb : a.heap.size ≤ base) : Fr a c :=
  ⟨k.os.trans h.os, k.tape.trans h.tape, k.output.trans h.output, Nat.le_trans h.size k.size, fun i hi _ => (k.block i (Nat.lt_of_lt_of_le hi h.size) (.inl (by omega))).trans (h.block i hi (by simp))⟩

theorem OwnBS.isB {w : World} {base : Nat} {v : Value} {xs : List Int} (h : OwnBS w base v xs) : ∃ g, v.ownBlock = some g ∧ base ≤ g ∧ isB w g := by
  obtain ⟨g, cap, rfl, ho⟩ := h
  rcases ho.1.2 with ⟨e, _⟩ | ⟨g', c', cur, e, hg, h1, h2⟩
  · simp at e
  · simp only [Value.slice.injEq, Option.some.injEq, Addr.mk.injEq, and_true] at e
    obtain ⟨rfl, -, rfl⟩ := e
    exact ⟨g, rfl, hg, cur, _, h1⟩
theorem OwnBS.frB {w w' : World} {base : Nat} {v : Value} {xs : List Int} (h : OwnBS w base v xs) (k : w.grownBy w' v.ownBlock) : FrB base w w' := by
  obtain ⟨g, e, hb, hg⟩ := h.isB
  refine ⟨k.os, k.tape, k.output, k.size, fun i hi hx => k.block i hi ?_⟩
  rw [e]
  intro q
  simp only [Option.some.injEq] at q
  subst q
  rcases hx with hx | hx
  · omega
  · exact hx hg

theorem ReadsB.take {w : World} {ao : Option Addr} {xs : List Int} (h : ReadsB w ao xs) (k : Nat) : ReadsB w ao (xs.take k) := by
  refine ⟨by have := h.len; simp; omega, fun x hx => h.bd x (List.mem_of_mem_take hx), fun i hi => ?_⟩
  simp only [List.length_take] at hi
  obtain ⟨b, off, e, hc⟩ := h.at_ i (by omega)
  refine ⟨b, off, e, fun j hj => ?_⟩
  simp only [List.length_take] at hj
  rw [hc j (by omega)]
  simp [List.getD, show j < k by omega]
theorem ownB_cap {w : World} {base g n cap : Nat} {xs : List Int} (h : OwnB w base (.slice (some ⟨g, 0, none⟩) n cap) xs) : n = xs.length ∧ n ≤ cap := by
  rcases h.1.2 with ⟨e, _⟩ | ⟨g', c', cur, e, _, _, h4, _⟩
  · simp at e
  · simp only [Value.slice.injEq] at e
    obtain ⟨-, rfl, rfl⟩ := e
    exact ⟨rfl, h4⟩
/-- '[]byte{..}' -/
theorem ownB_lit (w : World) (xs : List Int) (hl : xs.length ≤ 4294967296) (hb : ∀ x ∈ xs, U8 x) : OwnBS (w.alloc (.cells (xs.map (Value.int .u8)).toArray 5)) w.heap.size (.slice (some ⟨w.heap.size, 0, none⟩) xs.length xs.length) xs :=
  ⟨w.heap.size, xs.length, rfl, ⟨by simp, .inr ⟨w.heap.size, xs.length, _, rfl, Nat.le_refl _, heap_alloc_new w _, Nat.le_refl _, by unfold maxLen; omega, by simp, by rw [Nat.mul_one]; exact List.take_of_length_le (by simp)⟩⟩, hl, hb⟩
/-- '[]byte{}' -/
theorem ownB_new (w : World) : OwnBS (w.alloc (.cells #[] 5)) w.heap.size (.slice (some ⟨w.heap.size, 0, none⟩) 0 0) [] := ownB_empty w _ (Nat.le_refl _)

set_option maxHeartbeats 400000 in
theorem withNumber_any (n : Int) (v : Value) (base : Nat) (xs : List Int) (w : World) (h0 : 0 ≤ n) (h1 : n ≤ 4398046511103) (h : OwnBS w base v xs) (hl : xs.length ≤ 4294960000) (hb : base ≤ w.heap.size) :
    Calls Tryd.prog 64 #[v, .int .i64 n] w fun e w' => ∃ v', e = .returned v' ∧ OwnBS w' base v' (xs ++ putL n) ∧ FrB base w w' := by
  go_enter Tryd.func64, Tryd.ntmps64
  go_wp2_with fail
  go_loopw [0, 1] (fun u i wr => ∃ f m ys, f ≤ 5 ∧ i = .int .i64 m ∧ 0 ≤ m ∧ Hid (m < 128 ^ (f + 1)) ∧ m ≤ 4398046511103 ∧ OwnBS wr base u ys ∧ ys.length + f ≤ 4294960010 ∧ Hid (ys ++ putF f m = xs ++ putL n) ∧ FrB base w wr) (fun _ i _ => (intOf i).toNat)
  case atStart => exact ⟨5, n, xs, by omega, rfl, h0, (show n < 128 ^ 6 by simpa using (by omega : n < 4398046511104)), h1, h, by omega, rfl, FrB.refl _ _⟩
  case round =>
    obtain ⟨f, m, ys, hf, rfl, m0, HM, m1, ho, hyl, HE, hfr⟩ := hrel
    rename_i u _
    have hsz := hfr.size
    by_cases hlt : 128 ≤ m
    · have hm := readsB_one wr (m % 128 + 128) ⟨by omega, by omega⟩
      obtain ⟨f', rfl⟩ : ∃ f', f = f' + 1 := by
        cases f with
        | zero => have := HM.out; simp at this; omega
        | succ f => exact ⟨f, rfl⟩
      have HE' : Hid ((ys ++ [m % 128 + 128]) ++ putF f' (m / 128) = xs ++ putL n) := by
        show _ = _
        rw [← HE.out, putF_big (by omega)]; simp
      have HM' : Hid (m / 128 < 128 ^ (f' + 1)) := by
        have := HM.out
        show _ < _
        rw [Int.pow_succ] at this; omega
      have hd0 : 0 ≤ m / 128 ∧ m / 128 < m := by omega
      clear HE HM h
      go_wp2_with (at_builtin; refine appB _ rfl _ _ rfl base _ ys [m % 128 + 128] rfl (ho.fr (Fr.alloc _ _)) _ _ _ rfl rfl (by simp) hm (by simp; omega) (by simp; omega) ?_; intro v1 w4 hv1 hg1)
      refine ⟨⟨f', m / 128, ys ++ [m % 128 + 128], by omega, rfl, hd0.1, HM', by omega, hv1, by simp; omega, HE', hfr.trans ((Fr.alloc wr _).toB base |>.trans ((ho.fr (Fr.alloc _ _)).frB hg1))⟩, ?_⟩
      simp only [intOf]
      omega
    · have hm := readsB_one wr m ⟨by omega, by omega⟩
      have e : Hid (ys ++ [m] = xs ++ putL n) := by
        show _ = _
        rw [← HE.out, putF_small (by omega)]
      clear HE HM h
      go_wp2_with (at_builtin; refine appB _ rfl _ _ rfl base _ ys [m] rfl (ho.fr (Fr.alloc _ _)) _ _ _ rfl rfl (by simp) hm (by simp; omega) (by simp; omega) ?_; intro v1 w4 hv1 hg1)
      go_ret
      refine ⟨v1, rfl, ?_, hfr.trans ((Fr.alloc wr _).toB base |>.trans ((ho.fr (Fr.alloc _ _)).frB hg1))⟩
      rw [← e.out]
      exact hv1

/-- What PutNumber answers. -/
def putA (n : Int) : List Int := if inB 0 4398046511103 n then putL n else []

set_option maxHeartbeats 400000 in
theorem specPut_any (n : Int) (w : World) :
    Calls Tryd.prog 68 #[.int .i64 n] w fun e w' => ∃ v, e = .returned (.tuple #[v, .bool (inB 0 4398046511103 n)]) ∧ OwnBS w' w.heap.size v (putA n) ∧ Fr w w' := by
  have c1 := fun w => l1In_any n 0 4398046511103 w
  rw [putA]
  cases hk : inB 0 4398046511103 n
  · simp only [hk] at c1
    clear hk
    go_enter Tryd.func68, Tryd.ntmps68
    go_wp2_with fail
    refine (c1 _).mono ?_
    rintro e w1 ⟨rfl, rfl⟩
    go_wp2_with fail
    go_ret2
    exact ⟨_, rfl, ownB_new w, Fr.alloc w _⟩
  · simp only [hk] at c1
    obtain ⟨h0, h1⟩ := inB_true hk
    clear hk
    go_enter Tryd.func68, Tryd.ntmps68
    go_wp2_with fail
    refine (c1 _).mono ?_
    rintro e w1 ⟨rfl, rfl⟩
    go_wp2_with fail
    go_loopw [0, 4] (fun i u wr => ∃ f m ys, f ≤ 5 ∧ i = .int .i64 m ∧ 0 ≤ m ∧ Hid (m < 128 ^ (f + 1)) ∧ m ≤ 4398046511103 ∧ OwnBS wr w.heap.size u ys ∧ ys.length + f ≤ 4294960010 ∧ Hid (ys ++ putF f m = putL n) ∧ Fr w wr) (fun i _ _ => (intOf i).toNat)
    case atStart => exact ⟨5, n, [], by omega, rfl, h0, (show n < 128 ^ 6 by simpa using (by omega : n < 4398046511104)), h1, ownB_new w, by simp, rfl, Fr.alloc w _⟩
    case round =>
      obtain ⟨f, m, ys, hf, rfl, m0, HM, m1, ho, hyl, HE, hfr⟩ := hrel
      have hsz := hfr.size
      by_cases hlt : 128 ≤ m
      · have hm := readsB_one wr (m % 128 + 128) ⟨by omega, by omega⟩
        obtain ⟨f', rfl⟩ : ∃ f', f = f' + 1 := by
          cases f with
          | zero => have := HM.out; simp at this; omega
          | succ f => exact ⟨f, rfl⟩
        have HE' : Hid ((ys ++ [m % 128 + 128]) ++ putF f' (m / 128) = putL n) := by
          show _ = _
          rw [← HE.out, putF_big (by omega)]; simp
        have HM' : Hid (m / 128 < 128 ^ (f' + 1)) := by
          have := HM.out
          show _ < _
          rw [Int.pow_succ] at this; omega
        have hd0 : 0 ≤ m / 128 ∧ m / 128 < m := by omega
        clear HE HM
        go_wp2_with (at_builtin; refine appB _ rfl _ _ rfl w.heap.size _ ys [m % 128 + 128] rfl (ho.fr (Fr.alloc _ _)) _ _ _ rfl rfl (by simp) hm (by simp; omega) (by simp; omega) ?_; intro v1 w4 hv1 hg1)
        refine ⟨⟨f', m / 128, ys ++ [m % 128 + 128], by omega, rfl, hd0.1, HM', by omega, hv1, by simp; omega, HE', hfr.thenB ((Fr.alloc wr _).toB w.heap.size |>.trans ((ho.fr (Fr.alloc _ _)).frB hg1)) (Nat.le_refl _)⟩, ?_⟩
        simp only [intOf]
        omega
      · have hm := readsB_one wr m ⟨by omega, by omega⟩
        have e : Hid (ys ++ [m] = putL n) := by
          show _ = _
          rw [← HE.out, putF_small (by omega)]
        clear HE HM
        go_wp2_with (at_builtin; refine appB _ rfl _ _ rfl w.heap.size _ ys [m] rfl (ho.fr (Fr.alloc _ _)) _ _ _ rfl rfl (by simp) hm (by simp; omega) (by simp; omega) ?_; intro v1 w4 hv1 hg1)
        go_ret2
        refine ⟨v1, rfl, ?_, hfr.thenB ((Fr.alloc wr _).toB w.heap.size |>.trans ((ho.fr (Fr.alloc _ _)).frB hg1)) (Nat.le_refl _)⟩
        rw [← e.out]
        exact hv1

end Go.Proofs.YtnekojcgbokhpaaDoor
