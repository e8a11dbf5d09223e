/-
  The keys of a board's map, sorted: slices.Sorted(maps.Keys(m)).
-/
import Derived.Test.YtikjodbboljhjaaGreatDoorScSort
import Derived.Shelf.SlIterI.Nil
import Derived.Ground.GgzProg
namespace Go.Proofs
shelf_lay_g SlLaysZI.n7 Ggz 7 at Tryz 153 as Tryz.keysL
shelf_lay_g SlLaysZI.n7 Ggz 7 at Tryz 154 as Tryz.keysC
shelf_lay_g SlLaysZI.n7 Ggz 7 at Tryz 155 as Tryz.keysN
shelf_lay_g SlLaysZI.n7 Ggz 7 at Tryz 156 as Tryz.keysI
shelf_lay_g SlLaysZI.n6 Ggz 6 at Tryz 152 as Tryz.sortedA
/-- slices.Sort's two contracts, at the fence that asks nothing. -/
theorem Tryz.sortsA (m : Nat) : AnyZI.SortsIn Tryz.prog Tryz.sortedA_ren Fence.wide m :=
  ⟨fun blk off cap ss W hH hblk hsz => callsIn_wide.2 (AnyM.slices_Sort_int Tryz.sortA blk off cap ss W hH hblk hsz),
   fun p cap W => callsIn_wide.2 (AnyM.slices_Sort_int_none Tryz.sortA p cap W)⟩
end Go.Proofs
namespace Go.Proofs.YtikjodbboljhjaaGreatDoor
open Go.RowKit Go.Maps Go.Sort Go.Shelf
open Go.WideShapes (sorted_perm)
open Go.WideElems (rd_key rg_of)

theorem map_keys {w : World} {R : Value → Option (DataW Value × List MemPlace)} {b n : Nat} {D : DataW Value} (h : w.ownsMap Tryz.prog 2 R b n D) : ∃ es, D = .map es ∧ es.Pairwise (fun p q => p.1 ≠ q.1) ∧ ∀ p ∈ es, ∃ x, p.1 = .int .i64 x := by
  obtain ⟨es, clock, _, F, _, rfl⟩ := h
  refine ⟨_, rfl, ((sorted_perm _).pairwise_iff (fun {_ _} hne => Ne.symm hne)).2 (Maps.fit_apart keyed64 F), fun p hp => ?_⟩
  obtain ⟨x, hx, rfl⟩ := List.mem_map.1 (mem_sorted.1 hp)
  obtain ⟨y, hy⟩ := F.reads x hx
  rw [rg_of hy]
  obtain ⟨z, -, e, -⟩ := Maps.keyOf_i64 Tryz.underlying2 (rd_key hy)
  exact ⟨z, e⟩
theorem rise_sorted {ks : List Int} (h : ks.Pairwise (· < ·)) : ks.mergeSort (fun x y => decide (x ≤ y)) = ks :=
  List.mergeSort_of_pairwise (h.imp fun q => by simpa using Int.le_of_lt q)
theorem rise_nodup {ks : List Int} (h : ks.Pairwise (· < ·)) : ks.Nodup := h.imp fun q => Int.ne_of_lt q

/-- What a sorted row of keys reads as. -/
theorem keys_row {w' : World} {base : Nat} {v : Value} {ss ks : List Int} (hs : ss.mergeSort (fun x y => decide (x ≤ y)) = ks) (hl : ss.length = ks.length) (hi : ∀ k ∈ ks, I64 k) (hm : ks.length ≤ 4000000)
    (h : w'.ownsRow base 2 1 v ss.length ((ss.mergeSort (fun x y => decide (x ≤ y))).map encZ)) : ∃ ao cap, v = .slice ao ks.length cap ∧ Reads w' ao ks ∧ ∀ k, blk ao = some k → base ≤ k ∧ k < w'.heap.size := by
  rw [hs, hl] at h
  have he : ks.map encZ = ks.map (Value.int .i64) := rfl
  rw [he] at h
  rcases h.2 with ⟨e, e2⟩ | ⟨g, cap, cur, e, r⟩
  · have hk : ks = [] := List.eq_nil_of_length_eq_zero (by simpa using e2)
    subst hk
    exact ⟨none, 0, e, Reads.nil _ _, fun k q => by simp [blk] at q⟩
  · subst e
    exact ⟨some ⟨g, 0, none⟩, cap, rfl, OwnI.reads (base := base) ⟨h, by omega, hi⟩, fun k q => h.lt k (by simpa [blk, Value.ownBlock] using q)⟩

theorem keysL_any (mb : Nat) (w : World) :
    Calls Tryz.prog 153 #[.map (some mb)] w fun e w' => e = .returned (.func (.func 167) #[] #[.pointer (some ⟨w.heap.size, 0, none⟩)]) ∧ w' = w.alloc (.cells #[.map (some mb)] 125) :=
  (callsIn_wide (n := 5)).1 (AnyZI.keys_in Tryz.keysL Fence.wide 5 trivial rfl (some mb) w)
set_option maxHeartbeats 1000000 in
theorem sortedL_any (mb n : Nat) (f : Int → Option Value) (ks : List Int) (w : World) (M : MapF w mb n f) (hr : ks.Pairwise (· < ·)) (hk : ∀ x, x ∈ ks ↔ (f x).isSome = true) (hi : ∀ k ∈ ks, I64 k) (hn : n ≤ 4000000) :
    Calls Tryz.prog 152 #[.func (.func 167) #[] #[.pointer (some ⟨w.heap.size, 0, none⟩)]] (w.alloc (.cells #[.map (some mb)] 125)) fun e w' => ∃ ao cap, e = .returned (.slice ao ks.length cap) ∧ Reads w' ao ks ∧ (∀ k, blk ao = some k → w.heap.size ≤ k ∧ k < w'.heap.size) ∧ Fr w w' := by
  obtain ⟨D, hown, hf⟩ := M
  have hbl := hown.lt
  obtain ⟨es, rfl, he1, he2⟩ := map_keys hown
  have hsz := hown.size_le
  have hkp : ks.Perm (intKeys (.map es)) := perm_intKeys he1 he2 (rise_nodup hr) (fun x => by rw [hk x, mapF_has hf])
  have hseq : SeqGives Fence.wide 2 Tryz.prog 167 #[.pointer (some ⟨w.heap.size, 0, none⟩)] encZ (fun ss => ss.Perm (intKeys (.map es))) (Maps.size (.map es)) (w.alloc (.cells #[.map (some mb)] 125)) :=
    AnyZI.keys_gives (ρ := Tryz.keysL_ren) { Tryz.keysL with } Fence.wide _ trivial rfl (by omega) w.heap.size mb n (.map es) _ (by simp) (by simp [go_sem]) (hown.alloc _)
  have cS := AnyZI.sorted_in Tryz.sortedA Fence.wide 5 trivial trivial trivial trivial rfl (by omega) (Tryz.sortsA _) (enters_of Tryz.func165 (by kernel_rfl) rfl) 167 #[.pointer (some ⟨w.heap.size, 0, none⟩)] trivial (enters_of Tryz.func167 (by kernel_rfl) rfl) _ _ (by unfold maxLen; omega) (by omega) _ hseq
  refine ((callsIn_wide (n := 5)).1 cS).mono ?_
  rintro e w' ⟨v, ss, rfl, hS, hrow, -, hb⟩
  have hss : ss.mergeSort (fun x y => decide (x ≤ y)) = ks := (mergeSort_of_perm_i (hS.trans hkp.symm)).trans (rise_sorted hr)
  have hl : ss.length = ks.length := (hS.trans hkp.symm).length_eq
  have hkl : ks.length ≤ 4000000 := by
    have h1 := hkp.length_eq
    have h2 : (intKeys (DataW.map es)).length = Maps.size (.map es) := by simp [intKeys, Maps.size]
    omega
  obtain ⟨ao, cap, rfl, R, hbk⟩ := keys_row hss hl hi hkl hrow
  exact ⟨ao, cap, rfl, R, fun k q => by have := hbk k q; simp only [World.size_alloc] at this; omega, (Fr.alloc w _).trans ⟨hb.1, hb.2, hb.3, hb.4, fun k hk _ => hb.5 k hk⟩⟩

theorem keysC_any (mb : Nat) (w : World) :
    Calls Tryz.prog 154 #[.map (some mb)] w fun e w' => e = .returned (.func (.func 168) #[] #[.pointer (some ⟨w.heap.size, 0, none⟩)]) ∧ w' = w.alloc (.cells #[.map (some mb)] 128) :=
  (callsIn_wide (n := 5)).1 (AnyZI.keys_in Tryz.keysC Fence.wide 5 trivial rfl (some mb) w)
set_option maxHeartbeats 1000000 in
theorem sortedC_any (mb n : Nat) (f : Int → Option Value) (ks : List Int) (w : World) (M : MapF w mb n f) (hr : ks.Pairwise (· < ·)) (hk : ∀ x, x ∈ ks ↔ (f x).isSome = true) (hi : ∀ k ∈ ks, I64 k) (hn : n ≤ 4000000) :
    Calls Tryz.prog 152 #[.func (.func 168) #[] #[.pointer (some ⟨w.heap.size, 0, none⟩)]] (w.alloc (.cells #[.map (some mb)] 128)) fun e w' => ∃ ao cap, e = .returned (.slice ao ks.length cap) ∧ Reads w' ao ks ∧ (∀ k, blk ao = some k → w.heap.size ≤ k ∧ k < w'.heap.size) ∧ Fr w w' := by
  obtain ⟨D, hown, hf⟩ := M
  have hbl := hown.lt
  obtain ⟨es, rfl, he1, he2⟩ := map_keys hown
  have hsz := hown.size_le
  have hkp : ks.Perm (intKeys (.map es)) := perm_intKeys he1 he2 (rise_nodup hr) (fun x => by rw [hk x, mapF_has hf])
  have hseq : SeqGives Fence.wide 2 Tryz.prog 168 #[.pointer (some ⟨w.heap.size, 0, none⟩)] encZ (fun ss => ss.Perm (intKeys (.map es))) (Maps.size (.map es)) (w.alloc (.cells #[.map (some mb)] 128)) :=
    AnyZI.keys_gives (ρ := Tryz.keysC_ren) { Tryz.keysC with } Fence.wide _ trivial rfl (by omega) w.heap.size mb n (.map es) _ (by simp) (by simp [go_sem]) (hown.alloc _)
  have cS := AnyZI.sorted_in Tryz.sortedA Fence.wide 5 trivial trivial trivial trivial rfl (by omega) (Tryz.sortsA _) (enters_of Tryz.func165 (by kernel_rfl) rfl) 168 #[.pointer (some ⟨w.heap.size, 0, none⟩)] trivial (enters_of Tryz.func168 (by kernel_rfl) rfl) _ _ (by unfold maxLen; omega) (by omega) _ hseq
  refine ((callsIn_wide (n := 5)).1 cS).mono ?_
  rintro e w' ⟨v, ss, rfl, hS, hrow, -, hb⟩
  have hss : ss.mergeSort (fun x y => decide (x ≤ y)) = ks := (mergeSort_of_perm_i (hS.trans hkp.symm)).trans (rise_sorted hr)
  have hl : ss.length = ks.length := (hS.trans hkp.symm).length_eq
  have hkl : ks.length ≤ 4000000 := by
    have h1 := hkp.length_eq
    have h2 : (intKeys (DataW.map es)).length = Maps.size (.map es) := by simp [intKeys, Maps.size]
    omega
  obtain ⟨ao, cap, rfl, R, hbk⟩ := keys_row hss hl hi hkl hrow
  exact ⟨ao, cap, rfl, R, fun k q => by have := hbk k q; simp only [World.size_alloc] at this; omega, (Fr.alloc w _).trans ⟨hb.1, hb.2, hb.3, hb.4, fun k hk _ => hb.5 k hk⟩⟩

theorem keysN_any (mb : Nat) (w : World) :
    Calls Tryz.prog 155 #[.map (some mb)] w fun e w' => e = .returned (.func (.func 169) #[] #[.pointer (some ⟨w.heap.size, 0, none⟩)]) ∧ w' = w.alloc (.cells #[.map (some mb)] 131) :=
  (callsIn_wide (n := 5)).1 (AnyZI.keys_in Tryz.keysN Fence.wide 5 trivial rfl (some mb) w)
set_option maxHeartbeats 1000000 in
theorem sortedN_any (mb n : Nat) (f : Int → Option Value) (ks : List Int) (w : World) (M : MapF w mb n f) (hr : ks.Pairwise (· < ·)) (hk : ∀ x, x ∈ ks ↔ (f x).isSome = true) (hi : ∀ k ∈ ks, I64 k) (hn : n ≤ 4000000) :
    Calls Tryz.prog 152 #[.func (.func 169) #[] #[.pointer (some ⟨w.heap.size, 0, none⟩)]] (w.alloc (.cells #[.map (some mb)] 131)) fun e w' => ∃ ao cap, e = .returned (.slice ao ks.length cap) ∧ Reads w' ao ks ∧ (∀ k, blk ao = some k → w.heap.size ≤ k ∧ k < w'.heap.size) ∧ Fr w w' := by
  obtain ⟨D, hown, hf⟩ := M
  have hbl := hown.lt
  obtain ⟨es, rfl, he1, he2⟩ := map_keys hown
  have hsz := hown.size_le
  have hkp : ks.Perm (intKeys (.map es)) := perm_intKeys he1 he2 (rise_nodup hr) (fun x => by rw [hk x, mapF_has hf])
  have hseq : SeqGives Fence.wide 2 Tryz.prog 169 #[.pointer (some ⟨w.heap.size, 0, none⟩)] encZ (fun ss => ss.Perm (intKeys (.map es))) (Maps.size (.map es)) (w.alloc (.cells #[.map (some mb)] 131)) :=
    AnyZI.keys_gives (ρ := Tryz.keysN_ren) { Tryz.keysN with } Fence.wide _ trivial rfl (by omega) w.heap.size mb n (.map es) _ (by simp) (by simp [go_sem]) (hown.alloc _)
  have cS := AnyZI.sorted_in Tryz.sortedA Fence.wide 5 trivial trivial trivial trivial rfl (by omega) (Tryz.sortsA _) (enters_of Tryz.func165 (by kernel_rfl) rfl) 169 #[.pointer (some ⟨w.heap.size, 0, none⟩)] trivial (enters_of Tryz.func169 (by kernel_rfl) rfl) _ _ (by unfold maxLen; omega) (by omega) _ hseq
  refine ((callsIn_wide (n := 5)).1 cS).mono ?_
  rintro e w' ⟨v, ss, rfl, hS, hrow, -, hb⟩
  have hss : ss.mergeSort (fun x y => decide (x ≤ y)) = ks := (mergeSort_of_perm_i (hS.trans hkp.symm)).trans (rise_sorted hr)
  have hl : ss.length = ks.length := (hS.trans hkp.symm).length_eq
  have hkl : ks.length ≤ 4000000 := by
    have h1 := hkp.length_eq
    have h2 : (intKeys (DataW.map es)).length = Maps.size (.map es) := by simp [intKeys, Maps.size]
    omega
  obtain ⟨ao, cap, rfl, R, hbk⟩ := keys_row hss hl hi hkl hrow
  exact ⟨ao, cap, rfl, R, fun k q => by have := hbk k q; simp only [World.size_alloc] at this; omega, (Fr.alloc w _).trans ⟨hb.1, hb.2, hb.3, hb.4, fun k hk _ => hb.5 k hk⟩⟩

theorem keysI_any (mb : Nat) (w : World) :
    Calls Tryz.prog 156 #[.map (some mb)] w fun e w' => e = .returned (.func (.func 170) #[] #[.pointer (some ⟨w.heap.size, 0, none⟩)]) ∧ w' = w.alloc (.cells #[.map (some mb)] 134) :=
  (callsIn_wide (n := 5)).1 (AnyZI.keys_in Tryz.keysI Fence.wide 5 trivial rfl (some mb) w)
set_option maxHeartbeats 1000000 in
theorem sortedI_any (mb n : Nat) (f : Int → Option Value) (ks : List Int) (w : World) (M : MapF w mb n f) (hr : ks.Pairwise (· < ·)) (hk : ∀ x, x ∈ ks ↔ (f x).isSome = true) (hi : ∀ k ∈ ks, I64 k) (hn : n ≤ 4000000) :
    Calls Tryz.prog 152 #[.func (.func 170) #[] #[.pointer (some ⟨w.heap.size, 0, none⟩)]] (w.alloc (.cells #[.map (some mb)] 134)) fun e w' => ∃ ao cap, e = .returned (.slice ao ks.length cap) ∧ Reads w' ao ks ∧ (∀ k, blk ao = some k → w.heap.size ≤ k ∧ k < w'.heap.size) ∧ Fr w w' := by
  obtain ⟨D, hown, hf⟩ := M
  have hbl := hown.lt
  obtain ⟨es, rfl, he1, he2⟩ := map_keys hown
  have hsz := hown.size_le
  have hkp : ks.Perm (intKeys (.map es)) := perm_intKeys he1 he2 (rise_nodup hr) (fun x => by rw [hk x, mapF_has hf])
  have hseq : SeqGives Fence.wide 2 Tryz.prog 170 #[.pointer (some ⟨w.heap.size, 0, none⟩)] encZ (fun ss => ss.Perm (intKeys (.map es))) (Maps.size (.map es)) (w.alloc (.cells #[.map (some mb)] 134)) :=
    AnyZI.keys_gives (ρ := Tryz.keysI_ren) { Tryz.keysI with } Fence.wide _ trivial rfl (by omega) w.heap.size mb n (.map es) _ (by simp) (by simp [go_sem]) (hown.alloc _)
  have cS := AnyZI.sorted_in Tryz.sortedA Fence.wide 5 trivial trivial trivial trivial rfl (by omega) (Tryz.sortsA _) (enters_of Tryz.func165 (by kernel_rfl) rfl) 170 #[.pointer (some ⟨w.heap.size, 0, none⟩)] trivial (enters_of Tryz.func170 (by kernel_rfl) rfl) _ _ (by unfold maxLen; omega) (by omega) _ hseq
  refine ((callsIn_wide (n := 5)).1 cS).mono ?_
  rintro e w' ⟨v, ss, rfl, hS, hrow, -, hb⟩
  have hss : ss.mergeSort (fun x y => decide (x ≤ y)) = ks := (mergeSort_of_perm_i (hS.trans hkp.symm)).trans (rise_sorted hr)
  have hl : ss.length = ks.length := (hS.trans hkp.symm).length_eq
  have hkl : ks.length ≤ 4000000 := by
    have h1 := hkp.length_eq
    have h2 : (intKeys (DataW.map es)).length = Maps.size (.map es) := by simp [intKeys, Maps.size]
    omega
  obtain ⟨ao, cap, rfl, R, hbk⟩ := keys_row hss hl hi hkl hrow
  exact ⟨ao, cap, rfl, R, fun k q => by have := hbk k q; simp only [World.size_alloc] at this; omega, (Fr.alloc w _).trans ⟨hb.1, hb.2, hb.3, hb.4, fun k hk _ => hb.5 k hk⟩⟩
end Go.Proofs.YtikjodbboljhjaaGreatDoor
