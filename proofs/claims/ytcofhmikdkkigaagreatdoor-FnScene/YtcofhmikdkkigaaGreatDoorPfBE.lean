/-
  Pack BE: ScKeys, ScOrd, ScCtO.
-/
import Derived.Test.YtcofhmikdkkigaaGreatDoorPfAT
import Derived.Shelf.SlIterI.Nil
import Derived.Ground.GgzProg
import Derived.Test.YtcofhmikdkkigaaGreatDoorPfAQ
import Derived.Test.YtcofhmikdkkigaaGreatDoorPfAR
namespace Go.Proofs
shelf_lay_g SlLaysZI.n7 Ggz 7 at Tryz 154 as Tryz.keysL
shelf_lay_g SlLaysZI.n7 Ggz 7 at Tryz 155 as Tryz.keysC
shelf_lay_g SlLaysZI.n7 Ggz 7 at Tryz 156 as Tryz.keysN
shelf_lay_g SlLaysZI.n7 Ggz 7 at Tryz 157 as Tryz.keysI
shelf_lay_g SlLaysZI.n6 Ggz 6 at Tryz 153 as Tryz.sortedA
theorem Tryz.sortsA (m : Nat) : AnyZI.SortsIn Tryz.prog Tryz.sortedA_ren Fence.wide m :=
  ⟨fun blk off cap ss W hH hblk hsz => callsIn_wide.2 (AnyM.slices_Sort_int Tryz.sortA blk off cap ss W hH hblk hsz),
   fun p cap W => callsIn_wide.2 (AnyM.slices_Sort_int_none Tryz.sortA p cap W)⟩
end Go.Proofs
namespace Go.Proofs.YtcofhmikdkkigaaGreatDoor
open Go.RowKit Go.Maps Go.Sort Go.Shelf
open Go.WideShapes (sorted_perm)
open Go.WideElems (rd_key rg_of)

theorem map_keys {w : World} {R : Value → Option (DataW Value × List MemPlace)} {b n : Nat} {D : DataW Value} (h : w.ownsMap Tryz.prog 2 R b n D) : ∃ es, D = .map es ∧ es.Pairwise (fun p q => p.1 ≠ q.1) ∧ ∀ p ∈ es, ∃ x, p.1 = .int .i64 x := by
  obtain ⟨es, clock, _, F, _, rfl⟩ := h
  refine ⟨_, rfl, ((sorted_perm _).pairwise_iff (fun {_ _} hne => Ne.symm hne)).2 (Maps.fit_apart keyed64 F), fun p hp => ?_⟩
  obtain ⟨x, hx, rfl⟩ := List.mem_map.1 (mem_sorted.1 hp)
  obtain ⟨y, hy⟩ := F.reads x hx
  rw [rg_of hy]
  obtain ⟨z, -, e, -⟩ := Maps.keyOf_i64 Tryz.underlying2 (rd_key hy)
  exact ⟨z, e⟩
theorem rise_sorted {ks : List Int} (h : ks.Pairwise (· < ·)) : ks.mergeSort (fun x y => decide (x ≤ y)) = ks :=
  List.mergeSort_of_pairwise (h.imp fun q => by simpa using Int.le_of_lt q)
theorem rise_nodup {ks : List Int} (h : ks.Pairwise (· < ·)) : ks.Nodup := h.imp fun q => Int.ne_of_lt q

theorem keys_row {w' : World} {base : Nat} {v : Value} {ss ks : List Int} (hs : ss.mergeSort (fun x y => decide (x ≤ y)) = ks) (hl : ss.length = ks.length) (hi : ∀ k ∈ ks, I64 k) (hm : ks.length ≤ 4000000)
    (h : w'.ownsRow base 2 1 v ss.length ((ss.mergeSort (fun x y => decide (x ≤ y))).map encZ)) : ∃ ao cap, v = .slice ao ks.length cap ∧ Reads w' ao ks ∧ ∀ k, blk ao = some k → base ≤ k ∧ k < w'.heap.size := by
  rw [hs, hl] at h
  have he : ks.map encZ = ks.map (Value.int .i64) := rfl
  rw [he] at h
  rcases h.2 with ⟨e, e2⟩ | ⟨g, cap, cur, e, r⟩
  · have hk : ks = [] := List.eq_nil_of_length_eq_zero (by simpa using e2)
    subst hk
    exact ⟨none, 0, e, Reads.nil _ _, fun k q => by simp [blk] at q⟩
  · subst e
    exact ⟨some ⟨g, 0, none⟩, cap, rfl, OwnI.reads (base := base) ⟨h, by omega, hi⟩, fun k q => h.lt k (by simpa [blk, Value.ownBlock] using q)⟩

theorem keysL_any (mb : Nat) (w : World) :
    Calls Tryz.prog 154 #[.map (some mb)] w fun e w' => e = .returned (.func (.func 188) #[] #[.pointer (some ⟨w.heap.size, 0, none⟩)]) ∧ w' = w.alloc (.cells #[.map (some mb)] 129) :=
  (callsIn_wide (n := 5)).1 (AnyZI.keys_in Tryz.keysL Fence.wide 5 trivial rfl (some mb) w)
set_option maxHeartbeats 1000000 in
theorem sortedL_any (mb n : Nat) (f : Int → Option Value) (ks : List Int) (w : World) (M : MapF w mb n f) (hr : ks.Pairwise (· < ·)) (hk : ∀ x, x ∈ ks ↔ (f x).isSome = true) (hi : ∀ k ∈ ks, I64 k) (hn : n ≤ 4000000) :
    Calls Tryz.prog 153 #[.func (.func 188) #[] #[.pointer (some ⟨w.heap.size, 0, none⟩)]] (w.alloc (.cells #[.map (some mb)] 129)) fun e w' => ∃ ao cap, e = .returned (.slice ao ks.length cap) ∧ Reads w' ao ks ∧ (∀ k, blk ao = some k → w.heap.size ≤ k ∧ k < w'.heap.size) ∧ Fr w w' := by
  obtain ⟨D, hown, hf⟩ := M
  have hbl := hown.lt
  obtain ⟨es, rfl, he1, he2⟩ := map_keys hown
  have hsz := hown.size_le
  have hkp : ks.Perm (intKeys (.map es)) := perm_intKeys he1 he2 (rise_nodup hr) (fun x => by rw [hk x, mapF_has hf])
  have hseq : SeqGives Fence.wide 2 Tryz.prog 188 #[.pointer (some ⟨w.heap.size, 0, none⟩)] encZ (fun ss => ss.Perm (intKeys (.map es))) (Maps.size (.map es)) (w.alloc (.cells #[.map (some mb)] 129)) :=
    AnyZI.keys_gives (ρ := Tryz.keysL_ren) { Tryz.keysL with } Fence.wide _ trivial rfl (by omega) w.heap.size mb n (.map es) _ (by simp) (by simp [go_sem]) (hown.alloc _)
  have cS := AnyZI.sorted_in Tryz.sortedA Fence.wide 5 trivial trivial trivial trivial rfl (by omega) (Tryz.sortsA _) (enters_of Tryz.func186 (by kernel_rfl) rfl) 188 #[.pointer (some ⟨w.heap.size, 0, none⟩)] trivial (enters_of Tryz.func188 (by kernel_rfl) rfl) _ _ (by unfold maxLen; omega) (by omega) _ hseq
  refine ((callsIn_wide (n := 5)).1 cS).mono ?_
  rintro e w' ⟨v, ss, rfl, hS, hrow, -, hb⟩
  have hss : ss.mergeSort (fun x y => decide (x ≤ y)) = ks := (mergeSort_of_perm_i (hS.trans hkp.symm)).trans (rise_sorted hr)
  have hl : ss.length = ks.length := (hS.trans hkp.symm).length_eq
  have hkl : ks.length ≤ 4000000 := by
    have h1 := hkp.length_eq
    have h2 : (intKeys (DataW.map es)).length = Maps.size (.map es) := by simp [intKeys, Maps.size]
    omega
  obtain ⟨ao, cap, rfl, R, hbk⟩ := keys_row hss hl hi hkl hrow
  exact ⟨ao, cap, rfl, R, fun k q => by have := hbk k q; simp only [World.size_alloc] at this; omega, (Fr.alloc w _).trans ⟨hb.1, hb.2, hb.3, hb.4, fun k hk _ => hb.5 k hk⟩⟩

theorem keysC_any (mb : Nat) (w : World) :
    Calls Tryz.prog 155 #[.map (some mb)] w fun e w' => e = .returned (.func (.func 189) #[] #[.pointer (some ⟨w.heap.size, 0, none⟩)]) ∧ w' = w.alloc (.cells #[.map (some mb)] 132) :=
  (callsIn_wide (n := 5)).1 (AnyZI.keys_in Tryz.keysC Fence.wide 5 trivial rfl (some mb) w)
set_option maxHeartbeats 1000000 in
theorem sortedC_any (mb n : Nat) (f : Int → Option Value) (ks : List Int) (w : World) (M : MapF w mb n f) (hr : ks.Pairwise (· < ·)) (hk : ∀ x, x ∈ ks ↔ (f x).isSome = true) (hi : ∀ k ∈ ks, I64 k) (hn : n ≤ 4000000) :
    Calls Tryz.prog 153 #[.func (.func 189) #[] #[.pointer (some ⟨w.heap.size, 0, none⟩)]] (w.alloc (.cells #[.map (some mb)] 132)) fun e w' => ∃ ao cap, e = .returned (.slice ao ks.length cap) ∧ Reads w' ao ks ∧ (∀ k, blk ao = some k → w.heap.size ≤ k ∧ k < w'.heap.size) ∧ Fr w w' := by
  obtain ⟨D, hown, hf⟩ := M
  have hbl := hown.lt
  obtain ⟨es, rfl, he1, he2⟩ := map_keys hown
  have hsz := hown.size_le
  have hkp : ks.Perm (intKeys (.map es)) := perm_intKeys he1 he2 (rise_nodup hr) (fun x => by rw [hk x, mapF_has hf])
  have hseq : SeqGives Fence.wide 2 Tryz.prog 189 #[.pointer (some ⟨w.heap.size, 0, none⟩)] encZ (fun ss => ss.Perm (intKeys (.map es))) (Maps.size (.map es)) (w.alloc (.cells #[.map (some mb)] 132)) :=
    AnyZI.keys_gives (ρ := Tryz.keysC_ren) { Tryz.keysC with } Fence.wide _ trivial rfl (by omega) w.heap.size mb n (.map es) _ (by simp) (by simp [go_sem]) (hown.alloc _)
  have cS := AnyZI.sorted_in Tryz.sortedA Fence.wide 5 trivial trivial trivial trivial rfl (by omega) (Tryz.sortsA _) (enters_of Tryz.func186 (by kernel_rfl) rfl) 189 #[.pointer (some ⟨w.heap.size, 0, none⟩)] trivial (enters_of Tryz.func189 (by kernel_rfl) rfl) _ _ (by unfold maxLen; omega) (by omega) _ hseq
  refine ((callsIn_wide (n := 5)).1 cS).mono ?_
  rintro e w' ⟨v, ss, rfl, hS, hrow, -, hb⟩
  have hss : ss.mergeSort (fun x y => decide (x ≤ y)) = ks := (mergeSort_of_perm_i (hS.trans hkp.symm)).trans (rise_sorted hr)
  have hl : ss.length = ks.length := (hS.trans hkp.symm).length_eq
  have hkl : ks.length ≤ 4000000 := by
    have h1 := hkp.length_eq
    have h2 : (intKeys (DataW.map es)).length = Maps.size (.map es) := by simp [intKeys, Maps.size]
    omega
  obtain ⟨ao, cap, rfl, R, hbk⟩ := keys_row hss hl hi hkl hrow
  exact ⟨ao, cap, rfl, R, fun k q => by have := hbk k q; simp only [World.size_alloc] at this; omega, (Fr.alloc w _).trans ⟨hb.1, hb.2, hb.3, hb.4, fun k hk _ => hb.5 k hk⟩⟩

theorem keysN_any (mb : Nat) (w : World) :
    Calls Tryz.prog 156 #[.map (some mb)] w fun e w' => e = .returned (.func (.func 190) #[] #[.pointer (some ⟨w.heap.size, 0, none⟩)]) ∧ w' = w.alloc (.cells #[.map (some mb)] 135) :=
  (callsIn_wide (n := 5)).1 (AnyZI.keys_in Tryz.keysN Fence.wide 5 trivial rfl (some mb) w)
set_option maxHeartbeats 1000000 in
theorem sortedN_any (mb n : Nat) (f : Int → Option Value) (ks : List Int) (w : World) (M : MapF w mb n f) (hr : ks.Pairwise (· < ·)) (hk : ∀ x, x ∈ ks ↔ (f x).isSome = true) (hi : ∀ k ∈ ks, I64 k) (hn : n ≤ 4000000) :
    Calls Tryz.prog 153 #[.func (.func 190) #[] #[.pointer (some ⟨w.heap.size, 0, none⟩)]] (w.alloc (.cells #[.map (some mb)] 135)) fun e w' => ∃ ao cap, e = .returned (.slice ao ks.length cap) ∧ Reads w' ao ks ∧ (∀ k, blk ao = some k → w.heap.size ≤ k ∧ k < w'.heap.size) ∧ Fr w w' := by
  obtain ⟨D, hown, hf⟩ := M
  have hbl := hown.lt
  obtain ⟨es, rfl, he1, he2⟩ := map_keys hown
  have hsz := hown.size_le
  have hkp : ks.Perm (intKeys (.map es)) := perm_intKeys he1 he2 (rise_nodup hr) (fun x => by rw [hk x, mapF_has hf])
  have hseq : SeqGives Fence.wide 2 Tryz.prog 190 #[.pointer (some ⟨w.heap.size, 0, none⟩)] encZ (fun ss => ss.Perm (intKeys (.map es))) (Maps.size (.map es)) (w.alloc (.cells #[.map (some mb)] 135)) :=
    AnyZI.keys_gives (ρ := Tryz.keysN_ren) { Tryz.keysN with } Fence.wide _ trivial rfl (by omega) w.heap.size mb n (.map es) _ (by simp) (by simp [go_sem]) (hown.alloc _)
  have cS := AnyZI.sorted_in Tryz.sortedA Fence.wide 5 trivial trivial trivial trivial rfl (by omega) (Tryz.sortsA _) (enters_of Tryz.func186 (by kernel_rfl) rfl) 190 #[.pointer (some ⟨w.heap.size, 0, none⟩)] trivial (enters_of Tryz.func190 (by kernel_rfl) rfl) _ _ (by unfold maxLen; omega) (by omega) _ hseq
  refine ((callsIn_wide (n := 5)).1 cS).mono ?_
  rintro e w' ⟨v, ss, rfl, hS, hrow, -, hb⟩
  have hss : ss.mergeSort (fun x y => decide (x ≤ y)) = ks := (mergeSort_of_perm_i (hS.trans hkp.symm)).trans (rise_sorted hr)
  have hl : ss.length = ks.length := (hS.trans hkp.symm).length_eq
  have hkl : ks.length ≤ 4000000 := by
    have h1 := hkp.length_eq
    have h2 : (intKeys (DataW.map es)).length = Maps.size (.map es) := by simp [intKeys, Maps.size]
    omega
  obtain ⟨ao, cap, rfl, R, hbk⟩ := keys_row hss hl hi hkl hrow
  exact ⟨ao, cap, rfl, R, fun k q => by have := hbk k q; simp only [World.size_alloc] at this; omega, (Fr.alloc w _).trans ⟨hb.1, hb.2, hb.3, hb.4, fun k hk _ => hb.5 k hk⟩⟩

theorem keysI_any (mb : Nat) (w : World) :
    Calls Tryz.prog 157 #[.map (some mb)] w fun e w' => e = .returned (.func (.func 191) #[] #[.pointer (some ⟨w.heap.size, 0, none⟩)]) ∧ w' = w.alloc (.cells #[.map (some mb)] 138) :=
  (callsIn_wide (n := 5)).1 (AnyZI.keys_in Tryz.keysI Fence.wide 5 trivial rfl (some mb) w)
set_option maxHeartbeats 1000000 in
theorem sortedI_any (mb n : Nat) (f : Int → Option Value) (ks : List Int) (w : World) (M : MapF w mb n f) (hr : ks.Pairwise (· < ·)) (hk : ∀ x, x ∈ ks ↔ (f x).isSome = true) (hi : ∀ k ∈ ks, I64 k) (hn : n ≤ 4000000) :
    Calls Tryz.prog 153 #[.func (.func 191) #[] #[.pointer (some ⟨w.heap.size, 0, none⟩)]] (w.alloc (.cells #[.map (some mb)] 138)) fun e w' => ∃ ao cap, e = .returned (.slice ao ks.length cap) ∧ Reads w' ao ks ∧ (∀ k, blk ao = some k → w.heap.size ≤ k ∧ k < w'.heap.size) ∧ Fr w w' := by
  obtain ⟨D, hown, hf⟩ := M
  have hbl := hown.lt
  obtain ⟨es, rfl, he1, he2⟩ := map_keys hown
  have hsz := hown.size_le
  have hkp : ks.Perm (intKeys (.map es)) := perm_intKeys he1 he2 (rise_nodup hr) (fun x => by rw [hk x, mapF_has hf])
  have hseq : SeqGives Fence.wide 2 Tryz.prog 191 #[.pointer (some ⟨w.heap.size, 0, none⟩)] encZ (fun ss => ss.Perm (intKeys (.map es))) (Maps.size (.map es)) (w.alloc (.cells #[.map (some mb)] 138)) :=
    AnyZI.keys_gives (ρ := Tryz.keysI_ren) { Tryz.keysI with } Fence.wide _ trivial rfl (by omega) w.heap.size mb n (.map es) _ (by simp) (by simp [go_sem]) (hown.alloc _)
  have cS := AnyZI.sorted_in Tryz.sortedA Fence.wide 5 trivial trivial trivial trivial rfl (by omega) (Tryz.sortsA _) (enters_of Tryz.func186 (by kernel_rfl) rfl) 191 #[.pointer (some ⟨w.heap.size, 0, none⟩)] trivial (enters_of Tryz.func191 (by kernel_rfl) rfl) _ _ (by unfold maxLen; omega) (by omega) _ hseq
  refine ((callsIn_wide (n := 5)).1 cS).mono ?_
  rintro e w' ⟨v, ss, rfl, hS, hrow, -, hb⟩
  have hss : ss.mergeSort (fun x y => decide (x ≤ y)) = ks := (mergeSort_of_perm_i (hS.trans hkp.symm)).trans (rise_sorted hr)
  have hl : ss.length = ks.length := (hS.trans hkp.symm).length_eq
  have hkl : ks.length ≤ 4000000 := by
    have h1 := hkp.length_eq
    have h2 : (intKeys (DataW.map es)).length = Maps.size (.map es) := by simp [intKeys, Maps.size]
    omega
  obtain ⟨ao, cap, rfl, R, hbk⟩ := keys_row hss hl hi hkl hrow
  exact ⟨ao, cap, rfl, R, fun k q => by have := hbk k q; simp only [World.size_alloc] at this; omega, (Fr.alloc w _).trans ⟨hb.1, hb.2, hb.3, hb.4, fun k hk _ => hb.5 k hk⟩⟩
end Go.Proofs.YtcofhmikdkkigaaGreatDoor
namespace Go.Proofs.YtcofhmikdkkigaaGreatDoor
open Go.RowKit


theorem appC2 (w : World) {ops : Array Oper} {rest : List Oper} {o : Oper} {a : Act} {Q : Exit → Act → World → Prop} (hgd : o.guard = none) (s x : Operand)
    (ho : o.op = .call { callee := .builtin .append, args := #[s, x], argTypes := #[25, 25] }) (base : Nat) (v : Value) (xs : List Ch) (e : Ch) (hs : a.eval s = v)
    (hown : OwnG layC w base v xs) (hx : a.eval x = .slice (some ⟨w.heap.size, 0, none⟩) 1 1) (hlen : xs.length ≤ 16777215) (hbase : base ≤ w.heap.size)
    (h : ∀ v' w', OwnG layC w' base v' (xs ++ [e]) → (w.alloc (.cells #[.int .i64 e.o, .int .i64 e.cap, .int .i64 e.sent, .int .i64 e.got, .bool e.cl] 89)).grownBy w' v.ownBlock → (v'.ownBlock = v.ownBlock ∨ v'.ownBlock = some (w.heap.size + 1)) → wpList Tryz.prog ops Q rest (a.put o.dst v') w') :
    wpList Tryz.prog ops Q (o :: rest) a (w.alloc (.cells #[.int .i64 e.o, .int .i64 e.cap, .int .i64 e.sent, .int .i64 e.got, .bool e.cl] 89)) :=
  appG layC _ hgd s x _ _ _ ho Tryz.underlying25 Tryz.infoC rfl (by decide) base v xs e hs (hown.fr (Fr.alloc _ _)) _ _ hx (newC w e) hlen (Nat.le_trans hbase (Fr.alloc w _).size) (fun v' w' a b c => h v' w' a b (by simpa using c))

set_option maxRecDepth 20000 in
set_option maxHeartbeats 2000000 in
theorem ordC_any (mb n : Nat) (f : Int → Option Value) (xs : List Ch) (w : World) (M : MapF w mb n f) (hr : (xs.map Ch.o).Pairwise (· < ·)) (hk : ∀ o, o ∈ xs.map Ch.o ↔ (f o).isSome = true) (hv : ∀ j (hj : j < xs.length), f (Ch.o xs[j]) = some (valC xs[j])) (hi : ∀ o ∈ xs.map Ch.o, I64 o) (hn : n ≤ 4000000) (hl : xs.length ≤ 1048576) :
    Calls Tryz.prog 104 #[.map (some mb)] w fun e w' => ∃ v, e = .returned v ∧ OwnG layC w' w.heap.size v xs ∧ Fr w w' := by
  have fE := Fr.alloc w (.cells #[] 89)
  have cK := keysC_any mb (w.alloc (.cells #[] 89))
  have cS := sortedC_any mb n f (xs.map Ch.o) (w.alloc (.cells #[] 89)) (M.fr fE) hr hk hi hn
  have hL : ∀ j (hj : j < xs.length) u, Fr w u → (Instr.lookup 132 (.map (some mb)) (.int .i64 (Ch.o xs[j])) false).run Tryz.prog u = .ok (valC xs[j]) u := fun j hj u fu => by
    rw [(M.fr fu).look Tryz.underlying132 (zeroC u) (hi _ (List.mem_map_of_mem (List.getElem_mem hj))), hv j hj]
    rfl
  have hlen : (xs.map Ch.o).length = xs.length := by simp
  rw [hlen] at cS
  simp only [World.size_alloc] at cS
  have HO : Hid (OwnG layC (w.alloc (.cells #[] 89)) w.heap.size (.slice (some ⟨w.heap.size, 0, none⟩) 0 0) []) := ownG_new layC w _ (Nat.le_refl _)
  clear M hr hk hv hi hlen
  go_enter Tryz.func104, Tryz.ntmps104
  go_wp2_with fail
  refine cK.mono ?_
  rintro e w1 ⟨rfl, rfl⟩
  clear cK
  go_wp2_with fail
  refine cS.mono ?_
  rintro e w2 ⟨ao, cap, rfl, R, hab, f2⟩
  clear cS
  have F2 := fE.trans f2
  have HO : Hid (OwnG layC w2 w.heap.size (.slice (some ⟨w.heap.size, 0, none⟩) 0 0) []) := HO.out.fr f2
  clear fE f2
  go_wp2_with fail
  go_loopw [3, 11] (fun u i wr => ∃ k : Nat, k ≤ xs.length ∧ i = .int .i64 k ∧ OwnG layC wr w.heap.size u (xs.take k) ∧ Fr w wr ∧ Reads wr ao (xs.map Ch.o) ∧ Hid ((∀ j, u.ownBlock = some j → blk ao ≠ some j) ∧ w2.heap.size ≤ wr.heap.size)) (fun _ i _ => xs.length - (intOf i).toNat)
  case atStart => exact ⟨0, Nat.zero_le _, rfl, HO.out, F2, R, ⟨fun j hj q => by have := (hab j q).1; simp only [Value.ownBlock, Option.some.injEq] at hj; omega, Nat.le_refl _⟩⟩
  case round =>
    clear HO
    obtain ⟨k, hk, rfl, ho, hf, R, HU⟩ := hrel
    have hs := hf.size
    by_cases hlt : k < xs.length
    · have Rk := R
      obtain ⟨b, off, rfl, hc⟩ := Rk.at_ k (by simpa using hlt)
      have hck := hc k (by simpa using hlt)
      rw [getD_at (by simpa using hlt), List.getElem_map] at hck
      clear hc Rk
      have hLk := hL k hlt wr hf
      have HS : Hid (xs.take (k + 1) = xs.take k ++ [xs[k]]) := List.take_succ_eq_append_getElem hlt
      have hln : (xs.take k).length ≤ k := by simp; omega
      obtain ⟨e, he⟩ : ∃ e, e = xs[k] := ⟨_, rfl⟩
      rw [← he] at hck hLk HS
      clear he
      have HA := Fr.alloc wr (.cells #[.int .i64 e.o, .int .i64 e.cap, .int .i64 e.sent, .int .i64 e.got, .bool e.cl] 89)
      have HR : Hid (∀ w4, (wr.alloc (.cells #[.int .i64 e.o, .int .i64 e.cap, .int .i64 e.sent, .int .i64 e.got, .bool e.cl] 89)).grownBy w4 u3.ownBlock → Fr w w4 ∧ Reads w4 (some ⟨b, off, none⟩) (xs.map Ch.o) ∧ w2.heap.size ≤ w4.heap.size) := fun w4 g => ⟨(hf.trans HA).then g ho.blk, (R.fr HA).keep g (.inr (fun q => by
        cases hq : u3.ownBlock with
        | none => rw [hq] at q; simp [blk] at q
        | some j => rw [hq] at q; exact HU.out.1 j hq q)), by have := g.size; have := HA.size; have := HU.out.2; omega⟩
      have hw2 := HU.out.2
      have hb2 := hab b rfl
      have HU := HU.out.1
      obtain ⟨zo, zc, zs, zg, zl⟩ := e
      simp only [valC] at hck hLk HA HR
      clear HA R
      have HU : Hid (∀ j, u3.ownBlock = some j → blk (some (⟨b, off, none⟩ : Addr)) ≠ some j) := HU
      go_wp2_with (at_builtin; refine appC2 _ rfl _ _ rfl w.heap.size u3 (xs.take k) ⟨zo, zc, zs, zg, zl⟩ rfl ho rfl (by omega) hs ?_; intro v4 w4 hv4 hg4 hat4)
      obtain ⟨r1, r2, r3⟩ := HR.out w4 hg4
      go_roundw
      case rel =>
        refine ⟨k + 1, by omega, by go_num, by rw [HS.out]; exact hv4, r1, r2, ⟨fun j hj => ?_, r3⟩⟩
        rcases hat4 with q | q
        · rw [q] at hj; exact HU.out j hj
        · rw [q] at hj
          simp only [Option.some.injEq] at hj
          simp only [blk, Option.map_some, ne_eq, Option.some.injEq]
          omega
      case measure => simp [intOf]; omega
    · have e : xs.take k = xs := List.take_of_length_le (by omega)
      rw [e] at ho
      have HOX : Hid (OwnG layC wr w.heap.size u3 xs) := ho
      clear e ho
      go_wp2_with fail
      go_ret
      exact ⟨_, rfl, HOX.out, hf⟩

theorem appN2 (w : World) {ops : Array Oper} {rest : List Oper} {o : Oper} {a : Act} {Q : Exit → Act → World → Prop} (hgd : o.guard = none) (s x : Operand)
    (ho : o.op = .call { callee := .builtin .append, args := #[s, x], argTypes := #[26, 26] }) (base : Nat) (v : Value) (xs : List Ct) (e : Ct) (hs : a.eval s = v)
    (hown : OwnG layN w base v xs) (hx : a.eval x = .slice (some ⟨w.heap.size, 0, none⟩) 1 1) (hlen : xs.length ≤ 16777215) (hbase : base ≤ w.heap.size)
    (h : ∀ v' w', OwnG layN w' base v' (xs ++ [e]) → (w.alloc (.cells #[.int .i64 e.o, .int .i64 e.n] 92)).grownBy w' v.ownBlock → (v'.ownBlock = v.ownBlock ∨ v'.ownBlock = some (w.heap.size + 1)) → wpList Tryz.prog ops Q rest (a.put o.dst v') w') :
    wpList Tryz.prog ops Q (o :: rest) a (w.alloc (.cells #[.int .i64 e.o, .int .i64 e.n] 92)) :=
  appG layN _ hgd s x _ _ _ ho Tryz.underlying26 Tryz.infoN rfl (by decide) base v xs e hs (hown.fr (Fr.alloc _ _)) _ _ hx (newN w e) hlen (Nat.le_trans hbase (Fr.alloc w _).size) (fun v' w' a b c => h v' w' a b (by simpa using c))

set_option maxRecDepth 20000 in
set_option maxHeartbeats 2000000 in
theorem ordN_any (mb n : Nat) (f : Int → Option Value) (xs : List Ct) (w : World) (M : MapF w mb n f) (hr : (xs.map Ct.o).Pairwise (· < ·)) (hk : ∀ o, o ∈ xs.map Ct.o ↔ (f o).isSome = true) (hv : ∀ j (hj : j < xs.length), f (Ct.o xs[j]) = some (valN xs[j])) (hi : ∀ o ∈ xs.map Ct.o, I64 o) (hn : n ≤ 4000000) (hl : xs.length ≤ 1048576) :
    Calls Tryz.prog 105 #[.map (some mb)] w fun e w' => ∃ v, e = .returned v ∧ OwnG layN w' w.heap.size v xs ∧ Fr w w' := by
  have fE := Fr.alloc w (.cells #[] 92)
  have cK := keysN_any mb (w.alloc (.cells #[] 92))
  have cS := sortedN_any mb n f (xs.map Ct.o) (w.alloc (.cells #[] 92)) (M.fr fE) hr hk hi hn
  have hL : ∀ j (hj : j < xs.length) u, Fr w u → (Instr.lookup 135 (.map (some mb)) (.int .i64 (Ct.o xs[j])) false).run Tryz.prog u = .ok (valN xs[j]) u := fun j hj u fu => by
    rw [(M.fr fu).look Tryz.underlying135 (zeroN u) (hi _ (List.mem_map_of_mem (List.getElem_mem hj))), hv j hj]
    rfl
  have hlen : (xs.map Ct.o).length = xs.length := by simp
  rw [hlen] at cS
  simp only [World.size_alloc] at cS
  have HO : Hid (OwnG layN (w.alloc (.cells #[] 92)) w.heap.size (.slice (some ⟨w.heap.size, 0, none⟩) 0 0) []) := ownG_new layN w _ (Nat.le_refl _)
  clear M hr hk hv hi hlen
  go_enter Tryz.func105, Tryz.ntmps105
  go_wp2_with fail
  refine cK.mono ?_
  rintro e w1 ⟨rfl, rfl⟩
  clear cK
  go_wp2_with fail
  refine cS.mono ?_
  rintro e w2 ⟨ao, cap, rfl, R, hab, f2⟩
  clear cS
  have F2 := fE.trans f2
  have HO : Hid (OwnG layN w2 w.heap.size (.slice (some ⟨w.heap.size, 0, none⟩) 0 0) []) := HO.out.fr f2
  clear fE f2
  go_wp2_with fail
  go_loopw [3, 11] (fun u i wr => ∃ k : Nat, k ≤ xs.length ∧ i = .int .i64 k ∧ OwnG layN wr w.heap.size u (xs.take k) ∧ Fr w wr ∧ Reads wr ao (xs.map Ct.o) ∧ Hid ((∀ j, u.ownBlock = some j → blk ao ≠ some j) ∧ w2.heap.size ≤ wr.heap.size)) (fun _ i _ => xs.length - (intOf i).toNat)
  case atStart => exact ⟨0, Nat.zero_le _, rfl, HO.out, F2, R, ⟨fun j hj q => by have := (hab j q).1; simp only [Value.ownBlock, Option.some.injEq] at hj; omega, Nat.le_refl _⟩⟩
  case round =>
    clear HO
    obtain ⟨k, hk, rfl, ho, hf, R, HU⟩ := hrel
    have hs := hf.size
    by_cases hlt : k < xs.length
    · have Rk := R
      obtain ⟨b, off, rfl, hc⟩ := Rk.at_ k (by simpa using hlt)
      have hck := hc k (by simpa using hlt)
      rw [getD_at (by simpa using hlt), List.getElem_map] at hck
      clear hc Rk
      have hLk := hL k hlt wr hf
      have HS : Hid (xs.take (k + 1) = xs.take k ++ [xs[k]]) := List.take_succ_eq_append_getElem hlt
      have hln : (xs.take k).length ≤ k := by simp; omega
      obtain ⟨e, he⟩ : ∃ e, e = xs[k] := ⟨_, rfl⟩
      rw [← he] at hck hLk HS
      clear he
      have HA := Fr.alloc wr (.cells #[.int .i64 e.o, .int .i64 e.n] 92)
      have HR : Hid (∀ w4, (wr.alloc (.cells #[.int .i64 e.o, .int .i64 e.n] 92)).grownBy w4 u3.ownBlock → Fr w w4 ∧ Reads w4 (some ⟨b, off, none⟩) (xs.map Ct.o) ∧ w2.heap.size ≤ w4.heap.size) := fun w4 g => ⟨(hf.trans HA).then g ho.blk, (R.fr HA).keep g (.inr (fun q => by
        cases hq : u3.ownBlock with
        | none => rw [hq] at q; simp [blk] at q
        | some j => rw [hq] at q; exact HU.out.1 j hq q)), by have := g.size; have := HA.size; have := HU.out.2; omega⟩
      have hw2 := HU.out.2
      have hb2 := hab b rfl
      have HU := HU.out.1
      obtain ⟨zo, zc⟩ := e
      simp only [valN] at hck hLk HA HR
      clear HA R
      have HU : Hid (∀ j, u3.ownBlock = some j → blk (some (⟨b, off, none⟩ : Addr)) ≠ some j) := HU
      go_wp2_with (at_builtin; refine appN2 _ rfl _ _ rfl w.heap.size u3 (xs.take k) ⟨zo, zc⟩ rfl ho rfl (by omega) hs ?_; intro v4 w4 hv4 hg4 hat4)
      obtain ⟨r1, r2, r3⟩ := HR.out w4 hg4
      go_roundw
      case rel =>
        refine ⟨k + 1, by omega, by go_num, by rw [HS.out]; exact hv4, r1, r2, ⟨fun j hj => ?_, r3⟩⟩
        rcases hat4 with q | q
        · rw [q] at hj; exact HU.out j hj
        · rw [q] at hj
          simp only [Option.some.injEq] at hj
          simp only [blk, Option.map_some, ne_eq, Option.some.injEq]
          omega
      case measure => simp [intOf]; omega
    · have e : xs.take k = xs := List.take_of_length_le (by omega)
      rw [e] at ho
      have HOX : Hid (OwnG layN wr w.heap.size u3 xs) := ho
      clear e ho
      go_wp2_with fail
      go_ret
      exact ⟨_, rfl, HOX.out, hf⟩

theorem appL2 (w : World) {ops : Array Oper} {rest : List Oper} {o : Oper} {a : Act} {Q : Exit → Act → World → Prop} (hgd : o.guard = none) (s x : Operand)
    (ho : o.op = .call { callee := .builtin .append, args := #[s, x], argTypes := #[24, 24] }) (base : Nat) (v : Value) (xs : List Lv) (e : Lv) (hs : a.eval s = v)
    (hown : OwnG layL w base v xs) (hx : a.eval x = .slice (some ⟨w.heap.size, 0, none⟩) 1 1) (hlen : xs.length ≤ 16777215) (hbase : base ≤ w.heap.size)
    (h : ∀ v' w', OwnG layL w' base v' (xs ++ [e]) → (w.alloc (.cells #[.int .i64 e.o, .int .i64 e.wr, .slice e.ro e.rn e.rc] 86)).grownBy w' v.ownBlock → (v'.ownBlock = v.ownBlock ∨ v'.ownBlock = some (w.heap.size + 1)) → wpList Tryz.prog ops Q rest (a.put o.dst v') w') :
    wpList Tryz.prog ops Q (o :: rest) a (w.alloc (.cells #[.int .i64 e.o, .int .i64 e.wr, .slice e.ro e.rn e.rc] 86)) :=
  appG layL _ hgd s x _ _ _ ho Tryz.underlying24 Tryz.infoL rfl (by decide) base v xs e hs (hown.fr (Fr.alloc _ _)) _ _ hx (newL w e) hlen (Nat.le_trans hbase (Fr.alloc w _).size) (fun v' w' a b c => h v' w' a b (by simpa using c))

set_option maxRecDepth 20000 in
set_option maxHeartbeats 2000000 in
theorem ordL_any (mb n : Nat) (f : Int → Option Value) (xs : List Lv) (w : World) (M : MapF w mb n f) (hr : (xs.map Lv.o).Pairwise (· < ·)) (hk : ∀ o, o ∈ xs.map Lv.o ↔ (f o).isSome = true) (hv : ∀ j (hj : j < xs.length), f (Lv.o xs[j]) = some (valL xs[j])) (hi : ∀ o ∈ xs.map Lv.o, I64 o) (hn : n ≤ 4000000) (hl : xs.length ≤ 1048576) :
    Calls Tryz.prog 103 #[.map (some mb)] w fun e w' => ∃ v, e = .returned v ∧ OwnG layL w' w.heap.size v xs ∧ Fr w w' := by
  have fE := Fr.alloc w (.cells #[] 86)
  have cK := keysL_any mb (w.alloc (.cells #[] 86))
  have cS := sortedL_any mb n f (xs.map Lv.o) (w.alloc (.cells #[] 86)) (M.fr fE) hr hk hi hn
  have hL : ∀ j (hj : j < xs.length) u, Fr w u → (Instr.lookup 129 (.map (some mb)) (.int .i64 (Lv.o xs[j])) false).run Tryz.prog u = .ok (valL xs[j]) u := fun j hj u fu => by
    rw [(M.fr fu).look Tryz.underlying129 (zeroL u) (hi _ (List.mem_map_of_mem (List.getElem_mem hj))), hv j hj]
    rfl
  have hlen : (xs.map Lv.o).length = xs.length := by simp
  rw [hlen] at cS
  simp only [World.size_alloc] at cS
  have HO : Hid (OwnG layL (w.alloc (.cells #[] 86)) w.heap.size (.slice (some ⟨w.heap.size, 0, none⟩) 0 0) []) := ownG_new layL w _ (Nat.le_refl _)
  clear M hr hk hv hi hlen
  go_enter Tryz.func103, Tryz.ntmps103
  go_wp2_with fail
  refine cK.mono ?_
  rintro e w1 ⟨rfl, rfl⟩
  clear cK
  go_wp2_with fail
  refine cS.mono ?_
  rintro e w2 ⟨ao, cap, rfl, R, hab, f2⟩
  clear cS
  have F2 := fE.trans f2
  have HO : Hid (OwnG layL w2 w.heap.size (.slice (some ⟨w.heap.size, 0, none⟩) 0 0) []) := HO.out.fr f2
  clear fE f2
  go_wp2_with fail
  go_loopw [3, 11] (fun u i wr => ∃ k : Nat, k ≤ xs.length ∧ i = .int .i64 k ∧ OwnG layL wr w.heap.size u (xs.take k) ∧ Fr w wr ∧ Reads wr ao (xs.map Lv.o) ∧ Hid ((∀ j, u.ownBlock = some j → blk ao ≠ some j) ∧ w2.heap.size ≤ wr.heap.size)) (fun _ i _ => xs.length - (intOf i).toNat)
  case atStart => exact ⟨0, Nat.zero_le _, rfl, HO.out, F2, R, ⟨fun j hj q => by have := (hab j q).1; simp only [Value.ownBlock, Option.some.injEq] at hj; omega, Nat.le_refl _⟩⟩
  case round =>
    clear HO
    obtain ⟨k, hk, rfl, ho, hf, R, HU⟩ := hrel
    have hs := hf.size
    by_cases hlt : k < xs.length
    · have Rk := R
      obtain ⟨b, off, rfl, hc⟩ := Rk.at_ k (by simpa using hlt)
      have hck := hc k (by simpa using hlt)
      rw [getD_at (by simpa using hlt), List.getElem_map] at hck
      clear hc Rk
      have hLk := hL k hlt wr hf
      have HS : Hid (xs.take (k + 1) = xs.take k ++ [xs[k]]) := List.take_succ_eq_append_getElem hlt
      have hln : (xs.take k).length ≤ k := by simp; omega
      obtain ⟨e, he⟩ : ∃ e, e = xs[k] := ⟨_, rfl⟩
      rw [← he] at hck hLk HS
      clear he
      have HA := Fr.alloc wr (.cells #[.int .i64 e.o, .int .i64 e.wr, .slice e.ro e.rn e.rc] 86)
      have HR : Hid (∀ w4, (wr.alloc (.cells #[.int .i64 e.o, .int .i64 e.wr, .slice e.ro e.rn e.rc] 86)).grownBy w4 u3.ownBlock → Fr w w4 ∧ Reads w4 (some ⟨b, off, none⟩) (xs.map Lv.o) ∧ w2.heap.size ≤ w4.heap.size) := fun w4 g => ⟨(hf.trans HA).then g ho.blk, (R.fr HA).keep g (.inr (fun q => by
        cases hq : u3.ownBlock with
        | none => rw [hq] at q; simp [blk] at q
        | some j => rw [hq] at q; exact HU.out.1 j hq q)), by have := g.size; have := HA.size; have := HU.out.2; omega⟩
      have hw2 := HU.out.2
      have hb2 := hab b rfl
      have HU := HU.out.1
      obtain ⟨zo, zc, zr, zn, zk⟩ := e
      simp only [valL] at hck hLk HA HR
      clear HA R
      have HU : Hid (∀ j, u3.ownBlock = some j → blk (some (⟨b, off, none⟩ : Addr)) ≠ some j) := HU
      go_wp2_with (at_builtin; refine appL2 _ rfl _ _ rfl w.heap.size u3 (xs.take k) ⟨zo, zc, zr, zn, zk⟩ rfl ho rfl (by omega) hs ?_; intro v4 w4 hv4 hg4 hat4)
      obtain ⟨r1, r2, r3⟩ := HR.out w4 hg4
      go_roundw
      case rel =>
        refine ⟨k + 1, by omega, by go_num, by rw [HS.out]; exact hv4, r1, r2, ⟨fun j hj => ?_, r3⟩⟩
        rcases hat4 with q | q
        · rw [q] at hj; exact HU.out j hj
        · rw [q] at hj
          simp only [Option.some.injEq] at hj
          simp only [blk, Option.map_some, ne_eq, Option.some.injEq]
          omega
      case measure => simp [intOf]; omega
    · have e : xs.take k = xs := List.take_of_length_le (by omega)
      rw [e] at ho
      have HOX : Hid (OwnG layL wr w.heap.size u3 xs) := ho
      clear e ho
      go_wp2_with fail
      go_ret
      exact ⟨_, rfl, HOX.out, hf⟩
end Go.Proofs.YtcofhmikdkkigaaGreatDoor
namespace Go.Proofs.YtcofhmikdkkigaaGreatDoor
open Go.RowKit

set_option maxRecDepth 20000 in
set_option maxHeartbeats 2000000 in
theorem l4SetCount_own {B : Nat → Prop} (s : Sv) (m : Scn) (o n : Int) (w : World) (ho : I64 o) (hn : I64 n) (hl : m.gs.length ≤ 1000) (h : ScR B w s m) :
    Calls Tryz.prog 169 #[.agg #[.int .i64 s.g, .slice s.lo s.ll s.lc, .slice s.co s.cl s.cc, .slice s.no s.nl s.nc, .slice s.oo s.ol s.oc], .int .i64 o, .int .i64 n] w fun e w' => ∃ s' : Sv, e = .returned (.agg #[.int .i64 s'.g, .slice s'.lo s'.ll s'.lc, .slice s'.co s'.cl s'.cc, .slice s'.no s'.nl s'.nc, .slice s'.oo s'.ol s'.oc]) ∧ ScR (Grew B w w') w' s' (setCt m o n) ∧ Fr w w' ∧ (OwR w s → OwR w' s') := by
  have hr := h.cts
  have hN := h.nl
  have HR : Hid (ScR B w s m) := h
  clear h
  have f1 := Fr.alloc w (.cells #[.int .i64 s.g, .slice s.lo s.ll s.lc, .slice s.co s.cl s.cc, .slice s.no s.nl s.nc, .slice s.oo s.ol s.oc] 29)
  have f2 := Fr.alloc (w.alloc (.cells #[.int .i64 s.g, .slice s.lo s.ll s.lc, .slice s.co s.cl s.cc, .slice s.no s.nl s.nc, .slice s.oo s.ol s.oc] 29)) (.cells #[.int .i64 0, .slice none 0 0, .slice none 0 0, .slice none 0 0, .slice none 0 0] 29)
  have k1 := (ScK.new w s).fr f2
  have k2 := ScK.new (w.alloc (.cells #[.int .i64 s.g, .slice s.lo s.ll s.lc, .slice s.co s.cl s.cc, .slice s.no s.nl s.nc, .slice s.oo s.ol s.oc] 29)) ⟨0, none, 0, 0, none, 0, 0, none, 0, 0, none, 0, 0⟩
  have fW := f1.trans f2
  obtain ⟨g, lo, ll, lc, co, cl, cc, no, nl, nc, oo, ol, oc⟩ := s
  simp only at hr hN k1 k2 fW ⊢
  subst hN
  obtain ⟨gs, hgs⟩ : ∃ gs, gs = m.gs := ⟨_, rfl⟩
  have HG : Hid (m.gs = gs) := hgs.symm
  rw [← hgs] at hr hl k1 k2 fW ⊢
  rw [← hgs] at HR
  clear hgs f1 f2
  go_enter Tryz.func169, Tryz.ntmps169
  go_wp2_with fail
  obtain ⟨W, hW⟩ : ∃ W, W = (w.alloc (.cells #[.int .i64 g, .slice lo ll lc, .slice co cl cc, .slice no gs.length nc, .slice oo ol oc] 29)).alloc (.cells #[.int .i64 0, .slice none 0 0, .slice none 0 0, .slice none 0 0, .slice none 0 0] 29) := ⟨_, rfl⟩
  have hz : w.heap.size + 2 = W.heap.size := by rw [hW]; simp
  rw [← hW] at k1 k2 fW ⊢
  simp only [World.size_alloc] at k2
  obtain ⟨b0, hbb⟩ : ∃ b0, b0 = w.heap.size := ⟨_, rfl⟩
  rw [← hbb] at k1 k2 hz ⊢
  have HB : Hid (b0 = w.heap.size) := hbb
  clear hW hbb
  have hl1 := hl
  go_loopw [7, 8, 9] (fun u q i wr => ∃ (k : Nat) (ys : List Ct) (b : Bool), k ≤ gs.length ∧ i = .int .i64 k ∧ q = .bool b ∧ Hid (setP Ct.o ⟨o, n⟩ (n == 0) (gs.take k) = (ys, b)) ∧ ys.length ≤ 2 * k ∧ OwnG layN wr W.heap.size u ys ∧ Fr W wr) (fun _ _ i _ => gs.length - (intOf i).toNat)
  case atStart => exact ⟨0, [], _, Nat.zero_le _, rfl, rfl, rfl, by simp, by rw [hz]; exact ownG_new layN W _ (Nat.le_refl _), Fr.alloc W _⟩
  case round =>
    obtain ⟨k, ys, b, hk, rfl, rfl, HP, hyl, hown, hf⟩ := hrel
    have hs := hf.size
    have hbk := hown.blk
    by_cases hlt : k < gs.length
    · obtain ⟨bl, off, rfl, d0, d1⟩ := ct_at (hr.fr (fW.trans hf)) k hlt
      have c3 := (k1.fr hf).at.c3
      simp only at c3
      have HS : Hid (setP Ct.o ⟨o, n⟩ (n == 0) (gs.take (k + 1)) = setS Ct.o ⟨o, n⟩ (ys, b) gs[k]) := by
        show setP Ct.o ⟨o, n⟩ (n == 0) (gs.take (k + 1)) = setS Ct.o ⟨o, n⟩ (ys, b) gs[k]
        rw [setP_step Ct.o _ _ gs k hlt, HP.out]
      obtain ⟨y, hy⟩ : ∃ y, y = gs[k] := ⟨_, rfl⟩
      simp only [← hy] at d0 d1
      rw [← hy] at HS
      clear hy HP
      have hsz : W.heap.size ≤ wr.heap.size := hs
      have HZ : Hid (b0 + 2 = W.heap.size) := hz
      clear hz
      obtain ⟨yo, yn⟩ := y
      simp only at d0 d1
      cases b
      · by_cases h1 : o ≤ yo
        · by_cases h2 : yo = o
          · have e2 : (yo == o) = true := beq_iff_eq.2 h2
            have HN : Hid (setP Ct.o ⟨o, n⟩ (n == 0) (gs.take (k + 1)) = (ys ++ [⟨o, n⟩], true)) := by
              show setP Ct.o ⟨o, n⟩ (n == 0) (gs.take (k + 1)) = (ys ++ [⟨o, n⟩], true)
              rw [HS.out]; exact setS_at h2
            clear HS h2
            go_wp2_with (at_builtin; refine appN _ rfl _ _ rfl W.heap.size u7 ys ⟨o, n⟩ rfl hown rfl (by omega) hsz ?_; intro v1 w4 hv1 hg1; have f4 := (hf.trans (Fr.alloc _ _)).then hg1 hbk; have c34 := (k1.fr f4).at.c3; simp only at c34; have d04 := sameCell d0 hf f4 (hr.fr fW) hlt; clear hg1 c3 d0)
            go_roundw
            case rel => exact ⟨k + 1, _, _, by omega, by go_num, rfl, HN, by simp; omega, hv1, f4⟩
            case measure => simp [intOf]; omega
          · have e2 : (yo == o) = false := beq_eq_false_iff_ne.2 h2
            have HN : Hid (setP Ct.o ⟨o, n⟩ (n == 0) (gs.take (k + 1)) = (ys ++ [⟨o, n⟩] ++ [⟨yo, yn⟩], true)) := by
              show setP Ct.o ⟨o, n⟩ (n == 0) (gs.take (k + 1)) = (ys ++ [⟨o, n⟩] ++ [⟨yo, yn⟩], true)
              rw [HS.out]; exact setS_in (show o < yo by omega)
            clear HS h2
            go_wp2_with (at_builtin; first
              | (refine appN _ rfl _ _ rfl W.heap.size u7 ys ⟨o, n⟩ rfl hown rfl (by omega) hsz ?_; intro v1 w4 hv1 hg1; have f4 := (hf.trans (Fr.alloc _ _)).then hg1 hbk; have s4 := f4.size; have c34 := (k1.fr f4).at.c3; simp only at c34; have d04 := sameCell d0 hf f4 (hr.fr fW) hlt; have d14 := sameCell1 d1 hf f4 (hr.fr fW) hlt; clear hg1 c3 d0 d1)
              | (refine appN _ rfl _ _ rfl W.heap.size v1 (ys ++ [⟨o, n⟩]) ⟨yo, yn⟩ rfl hv1 rfl (by simp; omega) s4 ?_; intro v5 w5 hv5 hg5))
            go_roundw
            case rel => exact ⟨k + 1, _, _, by omega, by go_num, rfl, HN, by simp; omega, hv5, (f4.trans (Fr.alloc _ _)).then hg5 hv1.blk⟩
            case measure => simp [intOf]; omega
        · have h3 : yo < o := by omega
          have e2 : (yo == o) = false := beq_eq_false_iff_ne.2 (by omega)
          have HN : Hid (setP Ct.o ⟨o, n⟩ (n == 0) (gs.take (k + 1)) = (ys ++ [⟨yo, yn⟩], false)) := by
            show setP Ct.o ⟨o, n⟩ (n == 0) (gs.take (k + 1)) = (ys ++ [⟨yo, yn⟩], false)
            rw [HS.out]; exact setS_on h3
          clear HS h1
          go_wp2_with (at_builtin; refine appN _ rfl _ _ rfl W.heap.size u7 ys ⟨yo, yn⟩ rfl hown rfl (by omega) hsz ?_; intro v1 w4 hv1 hg1)
          go_roundw
          case rel => exact ⟨k + 1, _, _, by omega, by go_num, rfl, HN, by simp; omega, hv1, (hf.trans (Fr.alloc _ _)).then hg1 hbk⟩
          case measure => simp [intOf]; omega
      · cases e2 : (yo == o)
        · have HN : Hid (setP Ct.o ⟨o, n⟩ (n == 0) (gs.take (k + 1)) = (ys ++ [⟨yo, yn⟩], true)) := by
            show setP Ct.o ⟨o, n⟩ (n == 0) (gs.take (k + 1)) = (ys ++ [⟨yo, yn⟩], true)
            rw [HS.out]; exact setS_go (beq_eq_false_iff_ne.1 e2)
          clear HS
          go_wp2_with (at_builtin; refine appN _ rfl _ _ rfl W.heap.size u7 ys ⟨yo, yn⟩ rfl hown rfl (by omega) hsz ?_; intro v1 w4 hv1 hg1)
          go_roundw
          case rel => exact ⟨k + 1, _, _, by omega, by go_num, rfl, HN, by simp; omega, hv1, (hf.trans (Fr.alloc _ _)).then hg1 hbk⟩
          case measure => simp [intOf]; omega
        · have HN : Hid (setP Ct.o ⟨o, n⟩ (n == 0) (gs.take (k + 1)) = (ys, true)) := by
            show setP Ct.o ⟨o, n⟩ (n == 0) (gs.take (k + 1)) = (ys, true)
            rw [HS.out]; exact setS_by (beq_iff_eq.1 e2)
          clear HS
          go_wp2_with fail
          go_roundw
          case rel => exact ⟨k + 1, _, _, by omega, by go_num, rfl, HN, by omega, hown, hf⟩
          case measure => simp [intOf]; omega
    · have et : k = gs.length := by omega
      subst et
      rw [List.take_length] at HP
      have c3 := (k1.fr hf).at.c3
      simp only at c3
      have HZ : Hid (b0 + 2 = W.heap.size) := hz
      clear hz
      cases b
      · have HN : Hid ((setCt m o n).gs = ys ++ [⟨o, n⟩]) := by
          show setL Ct.o ⟨o, n⟩ (n == 0) m.gs = ys ++ [⟨o, n⟩]
          rw [HG.out]; exact setL_end HP.out
        clear HP
        go_wp2_with (at_builtin; refine appN _ rfl _ _ rfl W.heap.size u7 ys ⟨o, n⟩ rfl hown rfl (by omega) hs ?_; intro v1 w4 hv1 hg1; have f4 := (hf.trans (Fr.alloc _ _)).then hg1 hbk; obtain ⟨gg, cg, rfl, hw, hwl⟩ := hv1; obtain ⟨i0, i1, i2, i3, i4⟩ := (k1.fr f4).at; obtain ⟨j0, j1, j2, j3, j4⟩ := (k2.fr f4).at; have v0 := (k1.fr f4).free 3; have v1 := fun i => (k2.fr f4).free i; simp only at i0 i1 i2 i3 i4 j0 j1 j2 j3 j4; clear hg1 c3)
        refine bodyPost_ret (v := .agg #[.int .i64 g, .slice lo ll lc, .slice co cl cc, .slice (some ⟨gg, 0, none⟩) (ys.length + 1) cg, .slice oo ol oc]) (by simp [results, Tryz.results169, go_sem, j0, j1, j2, j3, j4]) rfl ⟨⟨g, lo, ll, lc, co, cl, cc, some ⟨gg, 0, none⟩, ys.length + 1, cg, oo, ol, oc⟩, rfl, ?_, ?_, ?_⟩
        · have hF := set_fin (i := 3) (x := .slice (some ⟨gg, 0, none⟩) (ys.length + 1) cg) (v0 := .int .i64 g) (v1 := .slice lo ll lc) (v2 := .slice co cl cc) (v3 := .slice (some ⟨gg, 0, none⟩) (ys.length + 1) cg) (v4 := .slice oo ol oc) fW f4 (Nat.le_of_eq HB.out.symm) (rb := b0 + 1) (by have := HB.out; omega) (by have := HZ.out; omega) (by have := HZ.out; omega) ⟨gg, cg, rfl, hw, hwl⟩
          have ha := hF.2.at
          exact ScR.counts (HR.out.mono Grew.old) hF.1 (.inr ⟨by have := HZ.out; have := HB.out; have := ha.2.2; omega, hF.2.lt _ rfl⟩) ho hn (by rw [HG.out]; exact hl) (by rw [HN.out]; exact ha.1) (by rw [HN.out]; simp)
        · exact (set_fin fW f4 (Nat.le_of_eq HB.out.symm) (rb := b0 + 1) (by have := HB.out; omega) (by have := HZ.out; omega) (by have := HZ.out; omega) ⟨gg, cg, rfl, hw, hwl⟩).1
        · intro hO
          have hF := set_fin (i := 3) (x := .slice (some ⟨gg, 0, none⟩) (ys.length + 1) cg) (v0 := .int .i64 g) (v1 := .slice lo ll lc) (v2 := .slice co cl cc) (v3 := .slice (some ⟨gg, 0, none⟩) (ys.length + 1) cg) (v4 := .slice oo ol oc) fW f4 (Nat.le_of_eq HB.out.symm) (rb := b0 + 1) (by have := HB.out; omega) (by have := HZ.out; omega) (by have := HZ.out; omega) ⟨gg, cg, rfl, hw, hwl⟩
          have q := hF.2
          rw [List.length_append, List.length_singleton] at q
          exact hO.counts hF.1 q
      · have HN : Hid ((setCt m o n).gs = ys) := by
          show setL Ct.o ⟨o, n⟩ (n == 0) m.gs = ys
          rw [HG.out]; exact setL_in HP.out
        clear HP
        obtain ⟨gg, cg, rfl, hw, hwl⟩ := hown
        obtain ⟨i0, i1, i2, i3, i4⟩ := (k1.fr hf).at
        obtain ⟨j0, j1, j2, j3, j4⟩ := (k2.fr hf).at
        have v0 := (k1.fr hf).free 3
        have v1 := fun i => (k2.fr hf).free i
        simp only at i0 i1 i2 i3 i4 j0 j1 j2 j3 j4
        clear c3
        go_wp2_with fail
        refine bodyPost_ret (v := .agg #[.int .i64 g, .slice lo ll lc, .slice co cl cc, .slice (some ⟨gg, 0, none⟩) ys.length cg, .slice oo ol oc]) (by simp [results, Tryz.results169, go_sem, j0, j1, j2, j3, j4]) rfl ⟨⟨g, lo, ll, lc, co, cl, cc, some ⟨gg, 0, none⟩, ys.length, cg, oo, ol, oc⟩, rfl, ?_, ?_, ?_⟩
        · have hF := set_fin (i := 3) (x := .slice (some ⟨gg, 0, none⟩) ys.length cg) (v0 := .int .i64 g) (v1 := .slice lo ll lc) (v2 := .slice co cl cc) (v3 := .slice (some ⟨gg, 0, none⟩) ys.length cg) (v4 := .slice oo ol oc) fW hf (Nat.le_of_eq HB.out.symm) (rb := b0 + 1) (by have := HB.out; omega) (by have := HZ.out; omega) (by have := HZ.out; omega) ⟨gg, cg, rfl, hw, hwl⟩
          have ha := hF.2.at
          exact ScR.counts (HR.out.mono Grew.old) hF.1 (.inr ⟨by have := HZ.out; have := HB.out; have := ha.2.2; omega, hF.2.lt _ rfl⟩) ho hn (by rw [HG.out]; exact hl) (by rw [HN.out]; exact ha.1) (by rw [HN.out])
        · exact (set_fin fW hf (Nat.le_of_eq HB.out.symm) (rb := b0 + 1) (by have := HB.out; omega) (by have := HZ.out; omega) (by have := HZ.out; omega) ⟨gg, cg, rfl, hw, hwl⟩).1
        · intro hO
          have hF := set_fin (i := 3) (x := .slice (some ⟨gg, 0, none⟩) ys.length cg) (v0 := .int .i64 g) (v1 := .slice lo ll lc) (v2 := .slice co cl cc) (v3 := .slice (some ⟨gg, 0, none⟩) ys.length cg) (v4 := .slice oo ol oc) fW hf (Nat.le_of_eq HB.out.symm) (rb := b0 + 1) (by have := HB.out; omega) (by have := HZ.out; omega) (by have := HZ.out; omega) ⟨gg, cg, rfl, hw, hwl⟩
          exact hO.counts hF.1 hF.2
end Go.Proofs.YtcofhmikdkkigaaGreatDoor
