/-
  Pack BV: ScKeys, ScOrd.
-/
import Derived.Test.YtplnijpolkflcaaGreatDoorPqAS
import Derived.Shelf.SlIterI.Nil
import Derived.Ground.GgzProg
import Derived.Test.YtplnijpolkflcaaGreatDoorPqAM
namespace Go.Proofs
shelf_lay_g SlLaysZI.n7 Ggz 7 at Tryz 176 as Tryz.keysL
shelf_lay_g SlLaysZI.n7 Ggz 7 at Tryz 177 as Tryz.keysC
shelf_lay_g SlLaysZI.n7 Ggz 7 at Tryz 178 as Tryz.keysN
shelf_lay_g SlLaysZI.n7 Ggz 7 at Tryz 179 as Tryz.keysI
shelf_lay_g SlLaysZI.n6 Ggz 6 at Tryz 175 as Tryz.sortedA
theorem Tryz.sortsA (m : Nat) : AnyZI.SortsIn Tryz.prog Tryz.sortedA_ren Fence.wide m :=
  ⟨fun blk off cap ss W hH hblk hsz => callsIn_wide.2 (AnyM.slices_Sort_int Tryz.sortA blk off cap ss W hH hblk hsz),
   fun p cap W => callsIn_wide.2 (AnyM.slices_Sort_int_none Tryz.sortA p cap W)⟩
end Go.Proofs
namespace Go.Proofs.YtplnijpolkflcaaGreatDoor
open Go.RowKit Go.Maps Go.Sort Go.Shelf
open Go.WideShapes (sorted_perm)
open Go.WideElems (rd_key rg_of)

theorem map_keys {w : World} {R : Value → Option (DataW Value × List MemPlace)} {b n : Nat} {D : DataW Value} (h : w.ownsMap Tryz.prog 2 R b n D) : ∃ es, D = .map es ∧ es.Pairwise (fun p q => p.1 ≠ q.1) ∧ ∀ p ∈ es, ∃ x, p.1 = .int .i64 x := by
  obtain ⟨es, clock, _, F, _, rfl⟩ := h
  refine ⟨_, rfl, ((sorted_perm _).pairwise_iff (fun {_ _} hne => Ne.symm hne)).2 (Maps.fit_apart keyed64 F), fun p hp => ?_⟩
  obtain ⟨x, hx, rfl⟩ := List.mem_map.1 (mem_sorted.1 hp)
  obtain ⟨y, hy⟩ := F.reads x hx
  rw [rg_of hy]
  obtain ⟨z, -, e, -⟩ := Maps.keyOf_i64 Tryz.underlying2 (rd_key hy)
  exact ⟨z, e⟩
theorem rise_sorted {ks : List Int} (h : ks.Pairwise (· < ·)) : ks.mergeSort (fun x y => decide (x ≤ y)) = ks :=
  List.mergeSort_of_pairwise (h.imp fun q => by simpa using Int.le_of_lt q)
theorem rise_nodup {ks : List Int} (h : ks.Pairwise (· < ·)) : ks.Nodup := h.imp fun q => Int.ne_of_lt q

theorem keys_row {w' : World} {base : Nat} {v : Value} {ss ks : List Int} (hs : ss.mergeSort (fun x y => decide (x ≤ y)) = ks) (hl : ss.length = ks.length) (hi : ∀ k ∈ ks, I64 k) (hm : ks.length ≤ 4000000)
    (h : w'.ownsRow base 2 1 v ss.length ((ss.mergeSort (fun x y => decide (x ≤ y))).map encZ)) : ∃ ao cap, v = .slice ao ks.length cap ∧ Reads w' ao ks ∧ ∀ k, blk ao = some k → base ≤ k ∧ k < w'.heap.size := by
  rw [hs, hl] at h
  have he : ks.map encZ = ks.map (Value.int .i64) := rfl
  rw [he] at h
  rcases h.2 with ⟨e, e2⟩ | ⟨g, cap, cur, e, r⟩
  · have hk : ks = [] := List.eq_nil_of_length_eq_zero (by simpa using e2)
    subst hk
    exact ⟨none, 0, e, Reads.nil _ _, fun k q => by simp [blk] at q⟩
  · subst e
    exact ⟨some ⟨g, 0, none⟩, cap, rfl, OwnI.reads (base := base) ⟨h, by omega, hi⟩, fun k q => h.lt k (by simpa [blk, Value.ownBlock] using q)⟩

theorem keysL_any (mb : Nat) (w : World) :
    Calls Tryz.prog 176 #[.map (some mb)] w fun e w' => e = .returned (.func (.func 196) #[] #[.pointer (some ⟨w.heap.size, 0, none⟩)]) ∧ w' = w.alloc (.cells #[.map (some mb)] 141) :=
  (callsIn_wide (n := 5)).1 (AnyZI.keys_in Tryz.keysL Fence.wide 5 trivial rfl (some mb) w)
set_option maxHeartbeats 1000000 in
theorem sortedL_any (mb n : Nat) (f : Int → Option Value) (ks : List Int) (w : World) (M : MapF w mb n f) (hr : ks.Pairwise (· < ·)) (hk : ∀ x, x ∈ ks ↔ (f x).isSome = true) (hi : ∀ k ∈ ks, I64 k) (hn : n ≤ 4000000) :
    Calls Tryz.prog 175 #[.func (.func 196) #[] #[.pointer (some ⟨w.heap.size, 0, none⟩)]] (w.alloc (.cells #[.map (some mb)] 141)) fun e w' => ∃ ao cap, e = .returned (.slice ao ks.length cap) ∧ Reads w' ao ks ∧ (∀ k, blk ao = some k → w.heap.size ≤ k ∧ k < w'.heap.size) ∧ Fr w w' := by
  obtain ⟨D, hown, hf⟩ := M
  have hbl := hown.lt
  obtain ⟨es, rfl, he1, he2⟩ := map_keys hown
  have hsz := hown.size_le
  have hkp : ks.Perm (intKeys (.map es)) := perm_intKeys he1 he2 (rise_nodup hr) (fun x => by rw [hk x, mapF_has hf])
  have hseq : SeqGives Fence.wide 2 Tryz.prog 196 #[.pointer (some ⟨w.heap.size, 0, none⟩)] encZ (fun ss => ss.Perm (intKeys (.map es))) (Maps.size (.map es)) (w.alloc (.cells #[.map (some mb)] 141)) :=
    AnyZI.keys_gives (ρ := Tryz.keysL_ren) { Tryz.keysL with } Fence.wide _ trivial rfl (by omega) w.heap.size mb n (.map es) _ (by simp) (by simp [go_sem]) (hown.alloc _)
  have cS := AnyZI.sorted_in Tryz.sortedA Fence.wide 5 trivial trivial trivial trivial rfl (by omega) (Tryz.sortsA _) (enters_of Tryz.func194 (by kernel_rfl) rfl) 196 #[.pointer (some ⟨w.heap.size, 0, none⟩)] trivial (enters_of Tryz.func196 (by kernel_rfl) rfl) _ _ (by unfold maxLen; omega) (by omega) _ hseq
  refine ((callsIn_wide (n := 5)).1 cS).mono ?_
  rintro e w' ⟨v, ss, rfl, hS, hrow, -, hb⟩
  have hss : ss.mergeSort (fun x y => decide (x ≤ y)) = ks := (mergeSort_of_perm_i (hS.trans hkp.symm)).trans (rise_sorted hr)
  have hl : ss.length = ks.length := (hS.trans hkp.symm).length_eq
  have hkl : ks.length ≤ 4000000 := by
    have h1 := hkp.length_eq
    have h2 : (intKeys (DataW.map es)).length = Maps.size (.map es) := by simp [intKeys, Maps.size]
    omega
  obtain ⟨ao, cap, rfl, R, hbk⟩ := keys_row hss hl hi hkl hrow
  exact ⟨ao, cap, rfl, R, fun k q => by have := hbk k q; simp only [World.size_alloc] at this; omega, (Fr.alloc w _).trans ⟨hb.1, hb.2, hb.3, hb.4, fun k hk _ => hb.5 k hk⟩⟩

theorem keysC_any (mb : Nat) (w : World) :
    Calls Tryz.prog 177 #[.map (some mb)] w fun e w' => e = .returned (.func (.func 197) #[] #[.pointer (some ⟨w.heap.size, 0, none⟩)]) ∧ w' = w.alloc (.cells #[.map (some mb)] 144) :=
  (callsIn_wide (n := 5)).1 (AnyZI.keys_in Tryz.keysC Fence.wide 5 trivial rfl (some mb) w)
set_option maxHeartbeats 1000000 in
theorem sortedC_any (mb n : Nat) (f : Int → Option Value) (ks : List Int) (w : World) (M : MapF w mb n f) (hr : ks.Pairwise (· < ·)) (hk : ∀ x, x ∈ ks ↔ (f x).isSome = true) (hi : ∀ k ∈ ks, I64 k) (hn : n ≤ 4000000) :
    Calls Tryz.prog 175 #[.func (.func 197) #[] #[.pointer (some ⟨w.heap.size, 0, none⟩)]] (w.alloc (.cells #[.map (some mb)] 144)) fun e w' => ∃ ao cap, e = .returned (.slice ao ks.length cap) ∧ Reads w' ao ks ∧ (∀ k, blk ao = some k → w.heap.size ≤ k ∧ k < w'.heap.size) ∧ Fr w w' := by
  obtain ⟨D, hown, hf⟩ := M
  have hbl := hown.lt
  obtain ⟨es, rfl, he1, he2⟩ := map_keys hown
  have hsz := hown.size_le
  have hkp : ks.Perm (intKeys (.map es)) := perm_intKeys he1 he2 (rise_nodup hr) (fun x => by rw [hk x, mapF_has hf])
  have hseq : SeqGives Fence.wide 2 Tryz.prog 197 #[.pointer (some ⟨w.heap.size, 0, none⟩)] encZ (fun ss => ss.Perm (intKeys (.map es))) (Maps.size (.map es)) (w.alloc (.cells #[.map (some mb)] 144)) :=
    AnyZI.keys_gives (ρ := Tryz.keysC_ren) { Tryz.keysC with } Fence.wide _ trivial rfl (by omega) w.heap.size mb n (.map es) _ (by simp) (by simp [go_sem]) (hown.alloc _)
  have cS := AnyZI.sorted_in Tryz.sortedA Fence.wide 5 trivial trivial trivial trivial rfl (by omega) (Tryz.sortsA _) (enters_of Tryz.func194 (by kernel_rfl) rfl) 197 #[.pointer (some ⟨w.heap.size, 0, none⟩)] trivial (enters_of Tryz.func197 (by kernel_rfl) rfl) _ _ (by unfold maxLen; omega) (by omega) _ hseq
  refine ((callsIn_wide (n := 5)).1 cS).mono ?_
  rintro e w' ⟨v, ss, rfl, hS, hrow, -, hb⟩
  have hss : ss.mergeSort (fun x y => decide (x ≤ y)) = ks := (mergeSort_of_perm_i (hS.trans hkp.symm)).trans (rise_sorted hr)
  have hl : ss.length = ks.length := (hS.trans hkp.symm).length_eq
  have hkl : ks.length ≤ 4000000 := by
    have h1 := hkp.length_eq
    have h2 : (intKeys (DataW.map es)).length = Maps.size (.map es) := by simp [intKeys, Maps.size]
    omega
  obtain ⟨ao, cap, rfl, R, hbk⟩ := keys_row hss hl hi hkl hrow
  exact ⟨ao, cap, rfl, R, fun k q => by have := hbk k q; simp only [World.size_alloc] at this; omega, (Fr.alloc w _).trans ⟨hb.1, hb.2, hb.3, hb.4, fun k hk _ => hb.5 k hk⟩⟩

theorem keysN_any (mb : Nat) (w : World) :
    Calls Tryz.prog 178 #[.map (some mb)] w fun e w' => e = .returned (.func (.func 198) #[] #[.pointer (some ⟨w.heap.size, 0, none⟩)]) ∧ w' = w.alloc (.cells #[.map (some mb)] 147) :=
  (callsIn_wide (n := 5)).1 (AnyZI.keys_in Tryz.keysN Fence.wide 5 trivial rfl (some mb) w)
set_option maxHeartbeats 1000000 in
theorem sortedN_any (mb n : Nat) (f : Int → Option Value) (ks : List Int) (w : World) (M : MapF w mb n f) (hr : ks.Pairwise (· < ·)) (hk : ∀ x, x ∈ ks ↔ (f x).isSome = true) (hi : ∀ k ∈ ks, I64 k) (hn : n ≤ 4000000) :
    Calls Tryz.prog 175 #[.func (.func 198) #[] #[.pointer (some ⟨w.heap.size, 0, none⟩)]] (w.alloc (.cells #[.map (some mb)] 147)) fun e w' => ∃ ao cap, e = .returned (.slice ao ks.length cap) ∧ Reads w' ao ks ∧ (∀ k, blk ao = some k → w.heap.size ≤ k ∧ k < w'.heap.size) ∧ Fr w w' := by
  obtain ⟨D, hown, hf⟩ := M
  have hbl := hown.lt
  obtain ⟨es, rfl, he1, he2⟩ := map_keys hown
  have hsz := hown.size_le
  have hkp : ks.Perm (intKeys (.map es)) := perm_intKeys he1 he2 (rise_nodup hr) (fun x => by rw [hk x, mapF_has hf])
  have hseq : SeqGives Fence.wide 2 Tryz.prog 198 #[.pointer (some ⟨w.heap.size, 0, none⟩)] encZ (fun ss => ss.Perm (intKeys (.map es))) (Maps.size (.map es)) (w.alloc (.cells #[.map (some mb)] 147)) :=
    AnyZI.keys_gives (ρ := Tryz.keysN_ren) { Tryz.keysN with } Fence.wide _ trivial rfl (by omega) w.heap.size mb n (.map es) _ (by simp) (by simp [go_sem]) (hown.alloc _)
  have cS := AnyZI.sorted_in Tryz.sortedA Fence.wide 5 trivial trivial trivial trivial rfl (by omega) (Tryz.sortsA _) (enters_of Tryz.func194 (by kernel_rfl) rfl) 198 #[.pointer (some ⟨w.heap.size, 0, none⟩)] trivial (enters_of Tryz.func198 (by kernel_rfl) rfl) _ _ (by unfold maxLen; omega) (by omega) _ hseq
  refine ((callsIn_wide (n := 5)).1 cS).mono ?_
  rintro e w' ⟨v, ss, rfl, hS, hrow, -, hb⟩
  have hss : ss.mergeSort (fun x y => decide (x ≤ y)) = ks := (mergeSort_of_perm_i (hS.trans hkp.symm)).trans (rise_sorted hr)
  have hl : ss.length = ks.length := (hS.trans hkp.symm).length_eq
  have hkl : ks.length ≤ 4000000 := by
    have h1 := hkp.length_eq
    have h2 : (intKeys (DataW.map es)).length = Maps.size (.map es) := by simp [intKeys, Maps.size]
    omega
  obtain ⟨ao, cap, rfl, R, hbk⟩ := keys_row hss hl hi hkl hrow
  exact ⟨ao, cap, rfl, R, fun k q => by have := hbk k q; simp only [World.size_alloc] at this; omega, (Fr.alloc w _).trans ⟨hb.1, hb.2, hb.3, hb.4, fun k hk _ => hb.5 k hk⟩⟩

theorem keysI_any (mb : Nat) (w : World) :
    Calls Tryz.prog 179 #[.map (some mb)] w fun e w' => e = .returned (.func (.func 199) #[] #[.pointer (some ⟨w.heap.size, 0, none⟩)]) ∧ w' = w.alloc (.cells #[.map (some mb)] 150) :=
  (callsIn_wide (n := 5)).1 (AnyZI.keys_in Tryz.keysI Fence.wide 5 trivial rfl (some mb) w)
set_option maxHeartbeats 1000000 in
theorem sortedI_any (mb n : Nat) (f : Int → Option Value) (ks : List Int) (w : World) (M : MapF w mb n f) (hr : ks.Pairwise (· < ·)) (hk : ∀ x, x ∈ ks ↔ (f x).isSome = true) (hi : ∀ k ∈ ks, I64 k) (hn : n ≤ 4000000) :
    Calls Tryz.prog 175 #[.func (.func 199) #[] #[.pointer (some ⟨w.heap.size, 0, none⟩)]] (w.alloc (.cells #[.map (some mb)] 150)) fun e w' => ∃ ao cap, e = .returned (.slice ao ks.length cap) ∧ Reads w' ao ks ∧ (∀ k, blk ao = some k → w.heap.size ≤ k ∧ k < w'.heap.size) ∧ Fr w w' := by
  obtain ⟨D, hown, hf⟩ := M
  have hbl := hown.lt
  obtain ⟨es, rfl, he1, he2⟩ := map_keys hown
  have hsz := hown.size_le
  have hkp : ks.Perm (intKeys (.map es)) := perm_intKeys he1 he2 (rise_nodup hr) (fun x => by rw [hk x, mapF_has hf])
  have hseq : SeqGives Fence.wide 2 Tryz.prog 199 #[.pointer (some ⟨w.heap.size, 0, none⟩)] encZ (fun ss => ss.Perm (intKeys (.map es))) (Maps.size (.map es)) (w.alloc (.cells #[.map (some mb)] 150)) :=
    AnyZI.keys_gives (ρ := Tryz.keysI_ren) { Tryz.keysI with } Fence.wide _ trivial rfl (by omega) w.heap.size mb n (.map es) _ (by simp) (by simp [go_sem]) (hown.alloc _)
  have cS := AnyZI.sorted_in Tryz.sortedA Fence.wide 5 trivial trivial trivial trivial rfl (by omega) (Tryz.sortsA _) (enters_of Tryz.func194 (by kernel_rfl) rfl) 199 #[.pointer (some ⟨w.heap.size, 0, none⟩)] trivial (enters_of Tryz.func199 (by kernel_rfl) rfl) _ _ (by unfold maxLen; omega) (by omega) _ hseq
  refine ((callsIn_wide (n := 5)).1 cS).mono ?_
  rintro e w' ⟨v, ss, rfl, hS, hrow, -, hb⟩
  have hss : ss.mergeSort (fun x y => decide (x ≤ y)) = ks := (mergeSort_of_perm_i (hS.trans hkp.symm)).trans (rise_sorted hr)
  have hl : ss.length = ks.length := (hS.trans hkp.symm).length_eq
  have hkl : ks.length ≤ 4000000 := by
    have h1 := hkp.length_eq
    have h2 : (intKeys (DataW.map es)).length = Maps.size (.map es) := by simp [intKeys, Maps.size]
    omega
  obtain ⟨ao, cap, rfl, R, hbk⟩ := keys_row hss hl hi hkl hrow
  exact ⟨ao, cap, rfl, R, fun k q => by have := hbk k q; simp only [World.size_alloc] at this; omega, (Fr.alloc w _).trans ⟨hb.1, hb.2, hb.3, hb.4, fun k hk _ => hb.5 k hk⟩⟩
end Go.Proofs.YtplnijpolkflcaaGreatDoor
namespace Go.Proofs.YtplnijpolkflcaaGreatDoor
open Go.RowKit


theorem appC2 (w : World) {ops : Array Oper} {rest : List Oper} {o : Oper} {a : Act} {Q : Exit → Act → World → Prop} (hgd : o.guard = none) (s x : Operand)
    (ho : o.op = .call { callee := .builtin .append, args := #[s, x], argTypes := #[25, 25] }) (base : Nat) (v : Value) (xs : List Ch) (e : Ch) (hs : a.eval s = v)
    (hown : OwnG layC w base v xs) (hx : a.eval x = .slice (some ⟨w.heap.size, 0, none⟩) 1 1) (hlen : xs.length ≤ 16777215) (hbase : base ≤ w.heap.size)
    (h : ∀ v' w', OwnG layC w' base v' (xs ++ [e]) → (w.alloc (.cells #[.int .i64 e.o, .int .i64 e.cap, .int .i64 e.sent, .int .i64 e.got, .bool e.cl] 85)).grownBy w' v.ownBlock → (v'.ownBlock = v.ownBlock ∨ v'.ownBlock = some (w.heap.size + 1)) → wpList Tryz.prog ops Q rest (a.put o.dst v') w') :
    wpList Tryz.prog ops Q (o :: rest) a (w.alloc (.cells #[.int .i64 e.o, .int .i64 e.cap, .int .i64 e.sent, .int .i64 e.got, .bool e.cl] 85)) :=
  appG layC _ hgd s x _ _ _ ho Tryz.underlying25 Tryz.infoC rfl (by decide) base v xs e hs (hown.fr (Fr.alloc _ _)) _ _ hx (newC w e) hlen (Nat.le_trans hbase (Fr.alloc w _).size) (fun v' w' a b c => h v' w' a b (by simpa using c))

set_option maxRecDepth 20000 in
set_option maxHeartbeats 2000000 in
theorem ordC_any (mb n : Nat) (f : Int → Option Value) (xs : List Ch) (w : World) (M : MapF w mb n f) (hr : (xs.map Ch.o).Pairwise (· < ·)) (hk : ∀ o, o ∈ xs.map Ch.o ↔ (f o).isSome = true) (hv : ∀ j (hj : j < xs.length), f (Ch.o xs[j]) = some (valC xs[j])) (hi : ∀ o ∈ xs.map Ch.o, I64 o) (hn : n ≤ 4000000) (hl : xs.length ≤ 1048576) :
    Calls Tryz.prog 116 #[.map (some mb)] w fun e w' => ∃ v, e = .returned v ∧ OwnG layC w' w.heap.size v xs ∧ Fr w w' := by
  have fE := Fr.alloc w (.cells #[] 85)
  have cK := keysC_any mb (w.alloc (.cells #[] 85))
  have cS := sortedC_any mb n f (xs.map Ch.o) (w.alloc (.cells #[] 85)) (M.fr fE) hr hk hi hn
  have hL : ∀ j (hj : j < xs.length) u, Fr w u → (Instr.lookup 144 (.map (some mb)) (.int .i64 (Ch.o xs[j])) false).run Tryz.prog u = .ok (valC xs[j]) u := fun j hj u fu => by
    rw [(M.fr fu).look Tryz.underlying144 (zeroC u) (hi _ (List.mem_map_of_mem (List.getElem_mem hj))), hv j hj]
    rfl
  have hlen : (xs.map Ch.o).length = xs.length := by simp
  rw [hlen] at cS
  simp only [World.size_alloc] at cS
  have HO : Hid (OwnG layC (w.alloc (.cells #[] 85)) w.heap.size (.slice (some ⟨w.heap.size, 0, none⟩) 0 0) []) := ownG_new layC w _ (Nat.le_refl _)
  clear M hr hk hv hi hlen
  go_enter Tryz.func116, Tryz.ntmps116
  go_wp2_with fail
  refine cK.mono ?_
  rintro e w1 ⟨rfl, rfl⟩
  clear cK
  go_wp2_with fail
  refine cS.mono ?_
  rintro e w2 ⟨ao, cap, rfl, R, hab, f2⟩
  clear cS
  have F2 := fE.trans f2
  have HO : Hid (OwnG layC w2 w.heap.size (.slice (some ⟨w.heap.size, 0, none⟩) 0 0) []) := HO.out.fr f2
  clear fE f2
  go_wp2_with fail
  go_loopw [3, 11] (fun u i wr => ∃ k : Nat, k ≤ xs.length ∧ i = .int .i64 k ∧ OwnG layC wr w.heap.size u (xs.take k) ∧ Fr w wr ∧ Reads wr ao (xs.map Ch.o) ∧ Hid ((∀ j, u.ownBlock = some j → blk ao ≠ some j) ∧ w2.heap.size ≤ wr.heap.size)) (fun _ i _ => xs.length - (intOf i).toNat)
  case atStart => exact ⟨0, Nat.zero_le _, rfl, HO.out, F2, R, ⟨fun j hj q => by have := (hab j q).1; simp only [Value.ownBlock, Option.some.injEq] at hj; omega, Nat.le_refl _⟩⟩
  case round =>
    clear HO
    obtain ⟨k, hk, rfl, ho, hf, R, HU⟩ := hrel
    have hs := hf.size
    by_cases hlt : k < xs.length
    · have Rk := R
      obtain ⟨b, off, rfl, hc⟩ := Rk.at_ k (by simpa using hlt)
      have hck := hc k (by simpa using hlt)
      rw [getD_at (by simpa using hlt), List.getElem_map] at hck
      clear hc Rk
      have hLk := hL k hlt wr hf
      have HS : Hid (xs.take (k + 1) = xs.take k ++ [xs[k]]) := List.take_succ_eq_append_getElem hlt
      have hln : (xs.take k).length ≤ k := by simp; omega
      obtain ⟨e, he⟩ : ∃ e, e = xs[k] := ⟨_, rfl⟩
      rw [← he] at hck hLk HS
      clear he
      have HA := Fr.alloc wr (.cells #[.int .i64 e.o, .int .i64 e.cap, .int .i64 e.sent, .int .i64 e.got, .bool e.cl] 85)
      have HR : Hid (∀ w4, (wr.alloc (.cells #[.int .i64 e.o, .int .i64 e.cap, .int .i64 e.sent, .int .i64 e.got, .bool e.cl] 85)).grownBy w4 u3.ownBlock → Fr w w4 ∧ Reads w4 (some ⟨b, off, none⟩) (xs.map Ch.o) ∧ w2.heap.size ≤ w4.heap.size) := fun w4 g => ⟨(hf.trans HA).then g ho.blk, (R.fr HA).keep g (.inr (fun q => by
        cases hq : u3.ownBlock with
        | none => rw [hq] at q; simp [blk] at q
        | some j => rw [hq] at q; exact HU.out.1 j hq q)), by have := g.size; have := HA.size; have := HU.out.2; omega⟩
      have hw2 := HU.out.2
      have hb2 := hab b rfl
      have HU := HU.out.1
      obtain ⟨zo, zc, zs, zg, zl⟩ := e
      simp only [valC] at hck hLk HA HR
      clear HA R
      have HU : Hid (∀ j, u3.ownBlock = some j → blk (some (⟨b, off, none⟩ : Addr)) ≠ some j) := HU
      go_wp2_with (at_builtin; refine appC2 _ rfl _ _ rfl w.heap.size u3 (xs.take k) ⟨zo, zc, zs, zg, zl⟩ rfl ho rfl (by omega) hs ?_; intro v4 w4 hv4 hg4 hat4)
      obtain ⟨r1, r2, r3⟩ := HR.out w4 hg4
      go_roundw
      case rel =>
        refine ⟨k + 1, by omega, by go_num, by rw [HS.out]; exact hv4, r1, r2, ⟨fun j hj => ?_, r3⟩⟩
        rcases hat4 with q | q
        · rw [q] at hj; exact HU.out j hj
        · rw [q] at hj
          simp only [Option.some.injEq] at hj
          simp only [blk, Option.map_some, ne_eq, Option.some.injEq]
          omega
      case measure => simp [intOf]; omega
    · have e : xs.take k = xs := List.take_of_length_le (by omega)
      rw [e] at ho
      have HOX : Hid (OwnG layC wr w.heap.size u3 xs) := ho
      clear e ho
      go_wp2_with fail
      go_ret
      exact ⟨_, rfl, HOX.out, hf⟩

theorem appN2 (w : World) {ops : Array Oper} {rest : List Oper} {o : Oper} {a : Act} {Q : Exit → Act → World → Prop} (hgd : o.guard = none) (s x : Operand)
    (ho : o.op = .call { callee := .builtin .append, args := #[s, x], argTypes := #[26, 26] }) (base : Nat) (v : Value) (xs : List Ct) (e : Ct) (hs : a.eval s = v)
    (hown : OwnG layN w base v xs) (hx : a.eval x = .slice (some ⟨w.heap.size, 0, none⟩) 1 1) (hlen : xs.length ≤ 16777215) (hbase : base ≤ w.heap.size)
    (h : ∀ v' w', OwnG layN w' base v' (xs ++ [e]) → (w.alloc (.cells #[.int .i64 e.o, .int .i64 e.n] 88)).grownBy w' v.ownBlock → (v'.ownBlock = v.ownBlock ∨ v'.ownBlock = some (w.heap.size + 1)) → wpList Tryz.prog ops Q rest (a.put o.dst v') w') :
    wpList Tryz.prog ops Q (o :: rest) a (w.alloc (.cells #[.int .i64 e.o, .int .i64 e.n] 88)) :=
  appG layN _ hgd s x _ _ _ ho Tryz.underlying26 Tryz.infoN rfl (by decide) base v xs e hs (hown.fr (Fr.alloc _ _)) _ _ hx (newN w e) hlen (Nat.le_trans hbase (Fr.alloc w _).size) (fun v' w' a b c => h v' w' a b (by simpa using c))

set_option maxRecDepth 20000 in
set_option maxHeartbeats 2000000 in
theorem ordN_any (mb n : Nat) (f : Int → Option Value) (xs : List Ct) (w : World) (M : MapF w mb n f) (hr : (xs.map Ct.o).Pairwise (· < ·)) (hk : ∀ o, o ∈ xs.map Ct.o ↔ (f o).isSome = true) (hv : ∀ j (hj : j < xs.length), f (Ct.o xs[j]) = some (valN xs[j])) (hi : ∀ o ∈ xs.map Ct.o, I64 o) (hn : n ≤ 4000000) (hl : xs.length ≤ 1048576) :
    Calls Tryz.prog 117 #[.map (some mb)] w fun e w' => ∃ v, e = .returned v ∧ OwnG layN w' w.heap.size v xs ∧ Fr w w' := by
  have fE := Fr.alloc w (.cells #[] 88)
  have cK := keysN_any mb (w.alloc (.cells #[] 88))
  have cS := sortedN_any mb n f (xs.map Ct.o) (w.alloc (.cells #[] 88)) (M.fr fE) hr hk hi hn
  have hL : ∀ j (hj : j < xs.length) u, Fr w u → (Instr.lookup 147 (.map (some mb)) (.int .i64 (Ct.o xs[j])) false).run Tryz.prog u = .ok (valN xs[j]) u := fun j hj u fu => by
    rw [(M.fr fu).look Tryz.underlying147 (zeroN u) (hi _ (List.mem_map_of_mem (List.getElem_mem hj))), hv j hj]
    rfl
  have hlen : (xs.map Ct.o).length = xs.length := by simp
  rw [hlen] at cS
  simp only [World.size_alloc] at cS
  have HO : Hid (OwnG layN (w.alloc (.cells #[] 88)) w.heap.size (.slice (some ⟨w.heap.size, 0, none⟩) 0 0) []) := ownG_new layN w _ (Nat.le_refl _)
  clear M hr hk hv hi hlen
  go_enter Tryz.func117, Tryz.ntmps117
  go_wp2_with fail
  refine cK.mono ?_
  rintro e w1 ⟨rfl, rfl⟩
  clear cK
  go_wp2_with fail
  refine cS.mono ?_
  rintro e w2 ⟨ao, cap, rfl, R, hab, f2⟩
  clear cS
  have F2 := fE.trans f2
  have HO : Hid (OwnG layN w2 w.heap.size (.slice (some ⟨w.heap.size, 0, none⟩) 0 0) []) := HO.out.fr f2
  clear fE f2
  go_wp2_with fail
  go_loopw [3, 11] (fun u i wr => ∃ k : Nat, k ≤ xs.length ∧ i = .int .i64 k ∧ OwnG layN wr w.heap.size u (xs.take k) ∧ Fr w wr ∧ Reads wr ao (xs.map Ct.o) ∧ Hid ((∀ j, u.ownBlock = some j → blk ao ≠ some j) ∧ w2.heap.size ≤ wr.heap.size)) (fun _ i _ => xs.length - (intOf i).toNat)
  case atStart => exact ⟨0, Nat.zero_le _, rfl, HO.out, F2, R, ⟨fun j hj q => by have := (hab j q).1; simp only [Value.ownBlock, Option.some.injEq] at hj; omega, Nat.le_refl _⟩⟩
  case round =>
    clear HO
    obtain ⟨k, hk, rfl, ho, hf, R, HU⟩ := hrel
    have hs := hf.size
    by_cases hlt : k < xs.length
    · have Rk := R
      obtain ⟨b, off, rfl, hc⟩ := Rk.at_ k (by simpa using hlt)
      have hck := hc k (by simpa using hlt)
      rw [getD_at (by simpa using hlt), List.getElem_map] at hck
      clear hc Rk
      have hLk := hL k hlt wr hf
      have HS : Hid (xs.take (k + 1) = xs.take k ++ [xs[k]]) := List.take_succ_eq_append_getElem hlt
      have hln : (xs.take k).length ≤ k := by simp; omega
      obtain ⟨e, he⟩ : ∃ e, e = xs[k] := ⟨_, rfl⟩
      rw [← he] at hck hLk HS
      clear he
      have HA := Fr.alloc wr (.cells #[.int .i64 e.o, .int .i64 e.n] 88)
      have HR : Hid (∀ w4, (wr.alloc (.cells #[.int .i64 e.o, .int .i64 e.n] 88)).grownBy w4 u3.ownBlock → Fr w w4 ∧ Reads w4 (some ⟨b, off, none⟩) (xs.map Ct.o) ∧ w2.heap.size ≤ w4.heap.size) := fun w4 g => ⟨(hf.trans HA).then g ho.blk, (R.fr HA).keep g (.inr (fun q => by
        cases hq : u3.ownBlock with
        | none => rw [hq] at q; simp [blk] at q
        | some j => rw [hq] at q; exact HU.out.1 j hq q)), by have := g.size; have := HA.size; have := HU.out.2; omega⟩
      have hw2 := HU.out.2
      have hb2 := hab b rfl
      have HU := HU.out.1
      obtain ⟨zo, zc⟩ := e
      simp only [valN] at hck hLk HA HR
      clear HA R
      have HU : Hid (∀ j, u3.ownBlock = some j → blk (some (⟨b, off, none⟩ : Addr)) ≠ some j) := HU
      go_wp2_with (at_builtin; refine appN2 _ rfl _ _ rfl w.heap.size u3 (xs.take k) ⟨zo, zc⟩ rfl ho rfl (by omega) hs ?_; intro v4 w4 hv4 hg4 hat4)
      obtain ⟨r1, r2, r3⟩ := HR.out w4 hg4
      go_roundw
      case rel =>
        refine ⟨k + 1, by omega, by go_num, by rw [HS.out]; exact hv4, r1, r2, ⟨fun j hj => ?_, r3⟩⟩
        rcases hat4 with q | q
        · rw [q] at hj; exact HU.out j hj
        · rw [q] at hj
          simp only [Option.some.injEq] at hj
          simp only [blk, Option.map_some, ne_eq, Option.some.injEq]
          omega
      case measure => simp [intOf]; omega
    · have e : xs.take k = xs := List.take_of_length_le (by omega)
      rw [e] at ho
      have HOX : Hid (OwnG layN wr w.heap.size u3 xs) := ho
      clear e ho
      go_wp2_with fail
      go_ret
      exact ⟨_, rfl, HOX.out, hf⟩

theorem appL2 (w : World) {ops : Array Oper} {rest : List Oper} {o : Oper} {a : Act} {Q : Exit → Act → World → Prop} (hgd : o.guard = none) (s x : Operand)
    (ho : o.op = .call { callee := .builtin .append, args := #[s, x], argTypes := #[24, 24] }) (base : Nat) (v : Value) (xs : List Lv) (e : Lv) (hs : a.eval s = v)
    (hown : OwnG layL w base v xs) (hx : a.eval x = .slice (some ⟨w.heap.size, 0, none⟩) 1 1) (hlen : xs.length ≤ 16777215) (hbase : base ≤ w.heap.size)
    (h : ∀ v' w', OwnG layL w' base v' (xs ++ [e]) → (w.alloc (.cells #[.int .i64 e.o, .int .i64 e.wr, .slice e.ro e.rn e.rc] 82)).grownBy w' v.ownBlock → (v'.ownBlock = v.ownBlock ∨ v'.ownBlock = some (w.heap.size + 1)) → wpList Tryz.prog ops Q rest (a.put o.dst v') w') :
    wpList Tryz.prog ops Q (o :: rest) a (w.alloc (.cells #[.int .i64 e.o, .int .i64 e.wr, .slice e.ro e.rn e.rc] 82)) :=
  appG layL _ hgd s x _ _ _ ho Tryz.underlying24 Tryz.infoL rfl (by decide) base v xs e hs (hown.fr (Fr.alloc _ _)) _ _ hx (newL w e) hlen (Nat.le_trans hbase (Fr.alloc w _).size) (fun v' w' a b c => h v' w' a b (by simpa using c))

set_option maxRecDepth 20000 in
set_option maxHeartbeats 2000000 in
theorem ordL_any (mb n : Nat) (f : Int → Option Value) (xs : List Lv) (w : World) (M : MapF w mb n f) (hr : (xs.map Lv.o).Pairwise (· < ·)) (hk : ∀ o, o ∈ xs.map Lv.o ↔ (f o).isSome = true) (hv : ∀ j (hj : j < xs.length), f (Lv.o xs[j]) = some (valL xs[j])) (hi : ∀ o ∈ xs.map Lv.o, I64 o) (hn : n ≤ 4000000) (hl : xs.length ≤ 1048576) :
    Calls Tryz.prog 115 #[.map (some mb)] w fun e w' => ∃ v, e = .returned v ∧ OwnG layL w' w.heap.size v xs ∧ Fr w w' := by
  have fE := Fr.alloc w (.cells #[] 82)
  have cK := keysL_any mb (w.alloc (.cells #[] 82))
  have cS := sortedL_any mb n f (xs.map Lv.o) (w.alloc (.cells #[] 82)) (M.fr fE) hr hk hi hn
  have hL : ∀ j (hj : j < xs.length) u, Fr w u → (Instr.lookup 141 (.map (some mb)) (.int .i64 (Lv.o xs[j])) false).run Tryz.prog u = .ok (valL xs[j]) u := fun j hj u fu => by
    rw [(M.fr fu).look Tryz.underlying141 (zeroL u) (hi _ (List.mem_map_of_mem (List.getElem_mem hj))), hv j hj]
    rfl
  have hlen : (xs.map Lv.o).length = xs.length := by simp
  rw [hlen] at cS
  simp only [World.size_alloc] at cS
  have HO : Hid (OwnG layL (w.alloc (.cells #[] 82)) w.heap.size (.slice (some ⟨w.heap.size, 0, none⟩) 0 0) []) := ownG_new layL w _ (Nat.le_refl _)
  clear M hr hk hv hi hlen
  go_enter Tryz.func115, Tryz.ntmps115
  go_wp2_with fail
  refine cK.mono ?_
  rintro e w1 ⟨rfl, rfl⟩
  clear cK
  go_wp2_with fail
  refine cS.mono ?_
  rintro e w2 ⟨ao, cap, rfl, R, hab, f2⟩
  clear cS
  have F2 := fE.trans f2
  have HO : Hid (OwnG layL w2 w.heap.size (.slice (some ⟨w.heap.size, 0, none⟩) 0 0) []) := HO.out.fr f2
  clear fE f2
  go_wp2_with fail
  go_loopw [3, 11] (fun u i wr => ∃ k : Nat, k ≤ xs.length ∧ i = .int .i64 k ∧ OwnG layL wr w.heap.size u (xs.take k) ∧ Fr w wr ∧ Reads wr ao (xs.map Lv.o) ∧ Hid ((∀ j, u.ownBlock = some j → blk ao ≠ some j) ∧ w2.heap.size ≤ wr.heap.size)) (fun _ i _ => xs.length - (intOf i).toNat)
  case atStart => exact ⟨0, Nat.zero_le _, rfl, HO.out, F2, R, ⟨fun j hj q => by have := (hab j q).1; simp only [Value.ownBlock, Option.some.injEq] at hj; omega, Nat.le_refl _⟩⟩
  case round =>
    clear HO
    obtain ⟨k, hk, rfl, ho, hf, R, HU⟩ := hrel
    have hs := hf.size
    by_cases hlt : k < xs.length
    · have Rk := R
      obtain ⟨b, off, rfl, hc⟩ := Rk.at_ k (by simpa using hlt)
      have hck := hc k (by simpa using hlt)
      rw [getD_at (by simpa using hlt), List.getElem_map] at hck
      clear hc Rk
      have hLk := hL k hlt wr hf
      have HS : Hid (xs.take (k + 1) = xs.take k ++ [xs[k]]) := List.take_succ_eq_append_getElem hlt
      have hln : (xs.take k).length ≤ k := by simp; omega
      obtain ⟨e, he⟩ : ∃ e, e = xs[k] := ⟨_, rfl⟩
      rw [← he] at hck hLk HS
      clear he
      have HA := Fr.alloc wr (.cells #[.int .i64 e.o, .int .i64 e.wr, .slice e.ro e.rn e.rc] 82)
      have HR : Hid (∀ w4, (wr.alloc (.cells #[.int .i64 e.o, .int .i64 e.wr, .slice e.ro e.rn e.rc] 82)).grownBy w4 u3.ownBlock → Fr w w4 ∧ Reads w4 (some ⟨b, off, none⟩) (xs.map Lv.o) ∧ w2.heap.size ≤ w4.heap.size) := fun w4 g => ⟨(hf.trans HA).then g ho.blk, (R.fr HA).keep g (.inr (fun q => by
        cases hq : u3.ownBlock with
        | none => rw [hq] at q; simp [blk] at q
        | some j => rw [hq] at q; exact HU.out.1 j hq q)), by have := g.size; have := HA.size; have := HU.out.2; omega⟩
      have hw2 := HU.out.2
      have hb2 := hab b rfl
      have HU := HU.out.1
      obtain ⟨zo, zc, zr, zn, zk⟩ := e
      simp only [valL] at hck hLk HA HR
      clear HA R
      have HU : Hid (∀ j, u3.ownBlock = some j → blk (some (⟨b, off, none⟩ : Addr)) ≠ some j) := HU
      go_wp2_with (at_builtin; refine appL2 _ rfl _ _ rfl w.heap.size u3 (xs.take k) ⟨zo, zc, zr, zn, zk⟩ rfl ho rfl (by omega) hs ?_; intro v4 w4 hv4 hg4 hat4)
      obtain ⟨r1, r2, r3⟩ := HR.out w4 hg4
      go_roundw
      case rel =>
        refine ⟨k + 1, by omega, by go_num, by rw [HS.out]; exact hv4, r1, r2, ⟨fun j hj => ?_, r3⟩⟩
        rcases hat4 with q | q
        · rw [q] at hj; exact HU.out j hj
        · rw [q] at hj
          simp only [Option.some.injEq] at hj
          simp only [blk, Option.map_some, ne_eq, Option.some.injEq]
          omega
      case measure => simp [intOf]; omega
    · have e : xs.take k = xs := List.take_of_length_le (by omega)
      rw [e] at ho
      have HOX : Hid (OwnG layL wr w.heap.size u3 xs) := ho
      clear e ho
      go_wp2_with fail
      go_ret
      exact ⟨_, rfl, HOX.out, hf⟩
end Go.Proofs.YtplnijpolkflcaaGreatDoor
