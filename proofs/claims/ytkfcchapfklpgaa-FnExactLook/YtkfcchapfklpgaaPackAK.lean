/-
  The keys of a map from owners, sorted: slices.SortedFunc(maps.Keys(m), compareOwners).
-/
import Derived.Test.YtkfcchapfklpgaaPackAJ
import Derived.Test.YtkfcchapfklpgaaPackAI
import Derived.Shelf.SlSortCmp.WholeK
import Derived.Shelf.SlSortCmp.NoneTotal
import Derived.Shelf.Lay
import Derived.Ground.SlsfProg
import Derived.Test.YtkfcchapfklpgaaPackAE
import Derived.Deep.DeepCutAuto
namespace Go.Proofs
shelf_lay_g SlLaysF0.n6 Slsf 6 at Try 72 as Try.sortO
end Go.Proofs
namespace Go.Proofs.Ytkfcchapfklpgaa
open Go.RowKit Go.Maps Go.Sort Go.Shelf Go.Lib

theorem isAggO : ∀ w, (isAgg 74).run Try.prog w = .ok true w := fun w => by kernel_rfl
theorem sizeOfO : ∀ w, (Go.sizeOf 74).run Try.prog w = .ok 2 w := fun w => by kernel_rfl
def cmpP (x y : Int × Int) : Int := cmpO x.1 x.2 y.1 y.2
theorem ltP (x y : Int × Int) : ltOf cmpP x y = ahB x.1 x.2 y.1 y.2 := cmpO_ah _ _ _ _
theorem swoP : SWO (ltOf cmpP) where
  irrefl x := by rw [ltP, ahB_false]; omega
  trans x y z h1 h2 := by rw [ltP, ahB_true] at *; omega
  ntrans x y z h1 h2 := by rw [ltP, ahB_false] at *; omega
theorem cmpLaysP (blk off size : Nat) (w : World) : CmpLays Try.prog 51 #[] kyC 2 cmpP blk off size w := by
  intro m os dk hdk x y
  exact cmpOwn_any x.1 x.2 y.1 y.2 _
theorem sortF_any (blk cap : Nat) (d : Array (Int × Int)) (w : World) (hH : HoldsK kyC 2 w blk 0 d) (hblk : blk < w.heap.size) (hsz : d.size < 4611686018427387904) :
    Calls Try.prog 72 #[.slice (some ⟨blk, 0, none⟩) d.size cap, .func (.func 51) #[] #[]] w fun e w' => e = .returned (.tuple #[]) ∧ ∃ d' n os, PermIn 0 d.size d d' ∧ SortedIn (ltOf cmpP) 0 d.size d' ∧ w' = sortWorldK kyC 2 w blk 0 n d' os := by
  have eg : ∀ args w, (callFunc 51 args).run Try.prog w = .ok (.enter 51 args) w := enters_of Try.func51 (by kernel_rfl) rfl
  exact AnyQ.slices_SortFunc Try.sortO 2 isAggO sizeOfO kyC (fun _ => rfl) (fun x v hv => by simp [kyC] at hv; rcases hv with rfl | rfl <;> rfl) cmpP swoP 51 #[] blk 0 cap d w eg (cmpLaysP blk 0 d.size w) hH hblk hsz

def LK : Lay (Int × Int) where
  ty := 74
  sz := 2
  cs := kyC
  pos := by decide
  len := fun _ => rfl
  one := fun x u hu => by
    simp only [kyC, List.mem_cons, List.not_mem_nil, or_false] at hu
    rcases hu with rfl | rfl <;> rfl
theorem flatP_cells (ps : List (Int × Int)) : (flatK kyC 2 ps.toArray).toList = ps.flatMap kyC := by
  have hl : (ps.flatMap kyC).length = ps.length * 2 := by
    induction ps with
    | nil => rfl
    | cons p ps ih => rw [List.flatMap_cons, List.length_append, ih]; simp [kyC]; omega
  apply List.ext_getElem?
  intro t
  by_cases ht : t < ps.length * 2
  · have h1 := cellsG_at LK ps (t / 2) (t % 2) (by omega) (by show t % 2 < 2; omega)
    have e : t / 2 * LK.sz + t % 2 = t := by show t / 2 * 2 + t % 2 = t; omega
    rw [e] at h1
    have h1 : (ps.flatMap kyC)[t]? = (kyC ps[t / 2])[t % 2]? := h1
    rw [h1]
    have h2 := get_flatK kyC 2 ps.toArray t (by simpa using ht)
    have hs : t < (flatK kyC 2 ps.toArray).size := by rw [size_flatK]; simpa using ht
    rw [Array.getElem?_toList, Array.getElem?_eq_getElem hs]
    rw [getElem!_pos _ t hs] at h2
    rw [h2]
    have hd : t / 2 < ps.length := by omega
    have e3 : ps.toArray[t / 2]! = ps[t / 2] := by rw [getElem!_pos _ _ (by simpa using hd)]; simp
    rw [e3]
    have hk : t % 2 < (kyC ps[t / 2]).length := by show t % 2 < 2; omega
    rw [getElem!_pos (kyC ps[t / 2]) (t % 2) hk, List.getElem?_eq_getElem hk]
  · rw [List.getElem?_eq_none (by rw [Array.length_toList, size_flatK]; simp; omega), List.getElem?_eq_none (by omega)]
theorem readsK_of_holds {w : World} {g : Nat} {ps : List (Int × Int)} (h : HoldsK kyC 2 w g 0 ps.toArray) (hl : ps.length ≤ 16777216) : ReadsG LK w (some ⟨g, 0, none⟩) ps := by
  refine ⟨hl, fun i hi => ⟨g, 0, rfl, fun j hj k hk => ?_⟩⟩
  have hk2 : k < 2 := hk
  have ht : j * 2 + k < (flatK kyC 2 ps.toArray).size := by rw [size_flatK]; simp; omega
  have h1 := (h (j * 2 + k) ht).1
  show w.cell? ⟨g, 0 + j * 2 + k, none⟩ = (kyC ps[j])[k]?
  rw [Nat.add_assoc, h1]
  have h2 : (flatK kyC 2 ps.toArray).toList[j * 2 + k]? = some ((flatK kyC 2 ps.toArray)[j * 2 + k]!) := by
    rw [Array.getElem?_toList, Array.getElem?_eq_getElem ht, getElem!_pos (flatK kyC 2 ps.toArray) (j * 2 + k) ht]
  have h3 := cellsG_at LK ps j k hj hk
  rw [flatP_cells] at h2
  have h3 : (ps.flatMap kyC)[j * 2 + k]? = (kyC ps[j])[k]? := h3
  rw [← h3, h2]
  rfl
theorem holdsK_of_row {w : World} {base g cap : Nat} {ps : List (Int × Int)} (ho : w.ownsRow base 74 2 (.slice (some ⟨g, 0, none⟩) ps.length cap) ps.length (ps.flatMap kyC)) : HoldsK kyC 2 w g 0 ps.toArray := by
  rcases ho.2 with ⟨e, _⟩ | ⟨g', cap', cur, e, hg, hc, h1, h2, h3, h4⟩
  · cases e
  cases e
  intro t ht
  have ht' : t < ps.length * 2 := by simpa using ht
  refine ⟨?_, by simp [World.frozen?, hc]⟩
  have hs : t < (flatK kyC 2 ps.toArray).size := by rw [size_flatK]; simpa using ht'
  have h5 := flatP_cells ps
  have h6 := ho.cellAt t (by show t < ps.length * 2; exact ht')
  rw [Nat.zero_add, h6, ← h5, Array.getElem?_toList, Array.getElem?_eq_getElem hs, getElem!_pos _ t hs]
  rfl
theorem grown_sortK {w : World} {g n : Nat} {os : Array Obj} (d : Array (Int × Int)) : w.grownBy (sortWorldK kyC 2 w g 0 n d os) (some g) := by
  refine ⟨rfl, rfl, rfl, by simp [sortWorldK, putRowK, putRow, mapBlock, Sort.ahead], fun k hk hne => ?_⟩
  have : g ≠ k := fun e => hne (by rw [e])
  show ((putRowK kyC 2 (Sort.ahead w n) g 0 d).heap ++ os)[k]? = _
  rw [Array.getElem?_append_left (by simpa [putRowK, putRow, mapBlock, Sort.ahead] using hk)]
  simp [putRowK, putRow, mapBlock, Sort.ahead, Array.getElem?_modify, this]
/-- Sorted they are the list's keys. -/
theorem keys_sorted {os : List Ow} {ss : List (Int × Int)} (hr : RisO os) (hp : ss.Perm (os.map fun o => (o.g, o.f))) : ss.mergeSort (fun x y => !(ltOf cmpP) y x) = os.map fun o => (o.g, o.f) := by
  have hle : ∀ x y : Int × Int, (!(ltOf cmpP) y x) = true ↔ (x.1 < y.1 ∨ x.1 = y.1 ∧ x.2 ≤ y.2) := fun x y => by
    rw [ltP]
    cases h : ahB y.1 y.2 x.1 x.2
    · rw [ahB_false] at h
      simp only [Bool.not_false, true_iff]
      omega
    · rw [ahB_true] at h
      simp only [Bool.not_true, Bool.false_eq_true, false_iff]
      omega
  have tr : ∀ a b c : Int × Int, (!(ltOf cmpP) b a) = true → (!(ltOf cmpP) c b) = true → (!(ltOf cmpP) c a) = true := fun a b c h1 h2 => by
    rw [hle] at *; omega
  have tot : ∀ a b : Int × Int, ((!(ltOf cmpP) b a) || (!(ltOf cmpP) a b)) = true := fun a b => by
    rw [Bool.or_eq_true, hle, hle]; omega
  refine List.Perm.eq_of_pairwise (le := fun a b : Int × Int => (!(ltOf cmpP) b a) = true) (fun a b _ _ h1 h2 => ?_) (List.pairwise_mergeSort tr tot ss) ?_ ((List.mergeSort_perm ss _).trans hp)
  · rw [hle] at h1 h2
    exact Prod.ext (by omega) (by omega)
  · refine List.pairwise_map.2 (hr.imp fun {p q} hh => ?_)
    rw [ahB_true] at hh
    rw [hle]
    simp only
    omega

set_option maxHeartbeats 1000000 in
theorem sortedO_any (mb nn : Nat) (os : List Ow) (V : Int → Int → Value) (w : World) (hM : MapO w mb nn os V) (hr : RisO os) (hi : InO os) (hl : os.length ≤ 1000000) :
    Calls Try.prog 62 #[.func (.func 73) #[] #[.pointer (some ⟨w.heap.size, 0, none⟩)], .func (.func 51) #[] #[]] (w.alloc (.cells #[.map (some mb)] 88)) fun e w' => ∃ ao cap, e = .returned (.slice ao os.length cap) ∧ ReadsG LK w' ao (os.map fun o => (o.g, o.f)) ∧ (∀ k, blk ao = some k → w.heap.size ≤ k ∧ ∃ cur fr, w'.heap[k]? = some (Obj.cells cur 74 fr)) ∧ Fr w w' := by
  have hm : (w.alloc (.cells #[.map (some mb)] 88)).cell? ⟨w.heap.size, 0, none⟩ = some (.map (some mb)) := by rw [cell_of_row _ _ _ _ _ _ (heap_alloc_new w _)]; rfl
  have hseq := keysO_gives 2 (by omega) w.heap.size mb nn os V (w.alloc (.cells #[.map (some mb)] 88)) (by simp) hm (hM.fr (Fr.alloc w _)) hr hi
  have fA := Fr.alloc w (.cells #[.map (some mb)] 88)
  have c1 := (callsIn_wide (n := 4)).1 (collectO_in 4 (by omega) 73 #[.pointer (some ⟨w.heap.size, 0, none⟩)] (enters_of Try.func73 (by kernel_rfl) rfl) _ os.length hl _ hseq)
  have cN := fun u => AnyF.slices_SortFunc_none Try.sortO none 0 (.func (.func 51) #[] #[]) u
  change ∀ u, Calls Try.prog 72 _ u _ at cN
  have hwz : w.heap.size ≤ (w.alloc (.cells #[.map (some mb)] 88)).heap.size := by simp
  clear hm hseq
  obtain ⟨W, hW⟩ : ∃ W, W = w.alloc (.cells #[.map (some mb)] 88) := ⟨_, rfl⟩
  rw [← hW] at c1 fA hwz ⊢
  clear hW
  go_enter Try.func62, Try.ntmps62
  go_wp2_with fail
  refine c1.mono ?_
  rintro e w1 ⟨v, ss, rfl, hS, hrow, hnil, hb⟩
  have hsl : ss.length = os.length := by have := hS.length_eq; simpa using this
  have f1 : Fr W w1 := ⟨hb.os, hb.tape, hb.output, hb.size, fun k hk _ => hb.block k hk⟩
  by_cases hss : ss = []
  · have hv := hnil.2 hss
    subst hv
    have ho : os = [] := List.eq_nil_of_length_eq_zero (by rw [← hsl, hss]; rfl)
    subst ho
    go_wp2_with fail
    refine (cN _).mono ?_
    rintro e w2 ⟨rfl, rfl⟩
    go_wp2_with fail
    go_ret
    exact ⟨none, 0, rfl, ReadsG.nil _ _ _, fun k q => by simp [blk] at q, fA.trans f1⟩
  · rcases hrow.2 with ⟨e, h0⟩ | ⟨g, cap, cur, rfl, hg, hc, r1, r2, r3, r4⟩
    · exact absurd (hnil.1 e) hss
    have hH := holdsK_of_row hrow
    have hlt : g < w1.heap.size := (Array.getElem?_eq_some_iff.1 hc).1
    have hsz : ss.toArray.size = ss.length := by simp
    have key := AnyQ.slices_SortFunc_total Try.sortO 2 isAggO sizeOfO kyC (fun _ => rfl) (fun x v hv => by simp [kyC] at hv; rcases hv with rfl | rfl <;> rfl) cmpP swoP 51 #[] g 0 cap ss.toArray w1 (enters_of Try.func51 (by kernel_rfl) rfl) (cmpLaysP g 0 ss.toArray.size w1) hH hlt (by simp; omega) (fun x y h1 h2 => by
      rw [ltP, ahB_false] at h1 h2
      exact Prod.ext (by omega) (by omega))
    rw [hsz, hsl] at key
    change Calls Try.prog 72 _ w1 _ at key
    have hks := keys_sorted hr hS
    rw [hsl]
    clear hrow hnil r1 r2 r3 r4 cN c1
    go_wp2_with fail
    refine key.mono ?_
    rintro e w2 ⟨rfl, n, os', rfl⟩
    have hd : (ss.toArray.toList.mergeSort fun x y => !(ltOf cmpP) y x).toArray = (os.map fun o => (o.g, o.f)).toArray := by
      rw [show ss.toArray.toList = ss from rfl, hks]
    rw [hd]
    have hH2 := holdsK_sortWorldK_c kyC 2 w1 g 0 ss.toArray (os.map fun o => (o.g, o.f)).toArray n os' hH hlt (by simp; omega)
    have hR := readsK_of_holds hH2 (by simp; omega)
    have hty : ∃ cur fr, (sortWorldK kyC 2 w1 g 0 n (os.map fun o => (o.g, o.f)).toArray os').heap[g]? = some (Obj.cells cur 74 fr) := by
      refine ⟨putCells id 0 (flatK kyC 2 (os.map fun o => (o.g, o.f)).toArray) cur, (0, 0), ?_⟩
      show ((putRowK kyC 2 (Sort.ahead w1 n) g 0 (os.map fun o => (o.g, o.f)).toArray).heap ++ os')[g]? = _
      rw [Array.getElem?_append_left (by simpa [putRowK, putRow, mapBlock, Sort.ahead] using hlt)]
      show (mapBlock (Sort.ahead w1 n) g (putCells id 0 (flatK kyC 2 (os.map fun o => (o.g, o.f)).toArray))).heap[g]? = _
      simp [mapBlock, Sort.ahead, Array.getElem?_modify, hc]
      rfl
    have hgr := grown_sortK (w := w1) (g := g) (n := n) (os := os') (os.map fun o => (o.g, o.f)).toArray
    obtain ⟨w2, hw2⟩ : ∃ w2, w2 = sortWorldK kyC 2 w1 g 0 n (os.map fun o => (o.g, o.f)).toArray os' := ⟨_, rfl⟩
    rw [← hw2] at hR hgr hty ⊢
    clear hw2 hH2 hd key hH hc
    go_wp2_with fail
    go_ret
    exact ⟨some ⟨g, 0, none⟩, cap, rfl, hR, fun k q => by simp only [blk, Option.map_some, Option.some.injEq] at q; subst q; exact ⟨by omega, hty⟩, (fA.trans f1).then hgr (fun j q => by cases q; omega)⟩
end Go.Proofs.Ytkfcchapfklpgaa
/-
  What a watch stands at: the sampler.
-/
namespace Go.Proofs.Ytkfcchapfklpgaa
open Go.RowKit

theorem wp_look {o : Oper} {a : Act} {u : World} {K : Act → World → Prop} {Q : Exit → Act → World → Prop} {v : Value} (t : TypeId) (m x : Operand) (b : Bool) (ho : o.op = .lookup t m x b) (hr : (Instr.lookup t (a.eval m) (a.eval x) b).run Try.prog u = .ok v u) (hK : K (a.put o.dst v) u) : o.wp Try.prog a u K Q := by
  unfold Oper.wp execOp
  simp [ho, hr, Result.andThen]
  exact hK
theorem wp_field2 {o : Oper} {a : Act} {u : World} {K : Act → World → Prop} {Q : Exit → Act → World → Prop} {v : Value} (t : TypeId) (x : Operand) (i : Nat) (ho : o.op = .field t x i) (hr : (Instr.field t (a.eval x) i).run Try.prog u = .ok v u) (hK : K (a.put o.dst v) u) : o.wp Try.prog a u K Q := by
  unfold Oper.wp execOp
  simp [ho, hr, Result.andThen]
  exact hK
theorem keys_maps (mb : Nat) (w : World) :
    Calls Try.prog 63 #[.map (some mb)] w fun e w' => e = .returned (.func (.func 73) #[] #[.pointer (some ⟨w.heap.size, 0, none⟩)]) ∧ w' = w.alloc (.cells #[.map (some mb)] 88) := by
  have hmf : ∀ (fn : Fn) (first cap : Array Value) (w : World), (Instr.makeFunc fn first cap).run Try.prog w = .ok (.func fn first cap) w := fun _ _ _ _ => rfl
  go_enter Try.func63, Try.ntmps63
  go_wp2_with fail
  go_ret
  exact ⟨rfl, rfl⟩
def dsM (i : Nat) : Nat := 18 + i
def coM (i : Nat) : Nat := [16, 2, 14, 4, 14, 6, 7, 8, 10, 10, 11, 12, 13, 14, 15, 16].getD i 0
def RM (wb mb O : Nat) (v0 : Value) (x : Ow) (c : Cf) (p : Nat) : Nat → Value → World → Prop
  | 0, v, _ => v = v0
  | 1, v, _ => v = .pointer (some ⟨O, 0, none⟩)
  | 2, v, _ => v = .int .i64 x.g
  | 3, v, _ => v = .pointer (some ⟨O, 1, none⟩)
  | 4, v, _ => v = .int .i64 x.f
  | 5, v, _ => v = .pointer (some ⟨wb, 0, none⟩)
  | 6, v, _ => v = .pointer (some ⟨wb, 0, none⟩)
  | 7, v, _ => v = .pointer (some ⟨wb, 22, none⟩)
  | 8, v, _ => v = .map (some mb)
  | 9, v, _ => v = .agg #[.int .i64 x.g, .int .i64 x.f]
  | 10, v, _ => v = lbV c p
  | 11, v, _ => v = .pointer (some ⟨p, 0, none⟩)
  | 12, v, _ => v = .pointer (some ⟨p, 0, none⟩)
  | 13, v, _ => v = .agg #[.int .i64 x.b.l, .int .i64 x.b.s, .int .i64 x.b.g]
  | 14, v, _ => v = .agg #[.int .i64 x.g, .int .i64 x.f, .int .i64 x.b.l, .int .i64 x.b.s, .int .i64 x.b.g]
  | 15, v, u => ∃ q, v = .slice (some ⟨q, 0, none⟩) 1 1 ∧ OwZ u q #[.int .i64 x.g, .int .i64 x.f, .int .i64 x.b.l, .int .i64 x.b.s, .int .i64 x.b.g]
  | _, _, _ => True
theorem RM.st {wb mb O : Nat} {v0 : Value} {x : Ow} {c : Cf} {p : Nat} (i : Nat) (v : Value) (u u' : World) (h : RM wb mb O v0 x c p i v u) (k : Fr u u') : RM wb mb O v0 x c p i v u' := by
  rcases i with _ | _ | _ | _ | _ | _ | _ | _ | _ | _ | _ | _ | _ | _ | _ | _ | i
  all_goals first | exact h | skip
  obtain ⟨q, h1, h2⟩ := h
  exact ⟨q, h1, h2.fr k⟩

set_option maxRecDepth 20000 in
set_option maxHeartbeats 8000000 in
theorem sampler_any {lo : Nat} {w : World} {wb mb : Nat} {c : Cf} {x : Value} {s : Smp} {B : Int → Int → Nat} {N : Nat} (h : WatW lo w wb mb c x s B N) (hr : RisO s.os) (hi : InO s.os) (hl : s.os.length ≤ 1000) :
    Calls Try.prog 46 #[.pointer (some ⟨wb, 0, none⟩)] w fun e w' => ∃ ao n cap, e = .returned (.agg #[.slice ao n cap, .int .i64 s.p, .int .i64 s.u]) ∧ OwnG LO w' w.heap.size (.slice ao n cap) s.os ∧ Fr w w' := by
  have HH : Hid (WatW lo w wb mb c x s B N ∧ RisO s.os ∧ InO s.os ∧ s.os.length ≤ 1000) := ⟨h, hr, hi, hl⟩
  obtain ⟨os, p, u⟩ := s
  simp only at HH hr hi hl ⊢
  have kR : KyZ (w.alloc (.cells #[.slice none 0 0, .int .i64 0, .int .i64 0] 33)) w.heap.size 33 #[.slice none 0 0, .int .i64 0, .int .i64 0] := heap_alloc_new _ _
  have f1 := Fr.alloc w (.cells #[.slice none 0 0, .int .i64 0, .int .i64 0] 33)
  obtain ⟨W, hW⟩ : ∃ W, W = w.alloc (.cells #[.slice none 0 0, .int .i64 0, .int .i64 0] 33) := ⟨_, rfl⟩
  have hs1 : W.heap.size = w.heap.size + 1 := by rw [hW]; simp
  have hO : OwnG LO (W.alloc (.cells #[] 53)) w.heap.size (.slice (some ⟨W.heap.size, 0, none⟩) 0 0) [] := ownG_new LO W w.heap.size (by omega)
  have f2 := Fr.alloc W (.cells #[] 53)
  rw [hs1] at hO
  rw [← hW] at kR f1
  have hcm := (h.fr (f1.trans f2)).box.cm
  rw [hW] at hO f2 hcm
  rw [hW] at kR f1
  clear h
  go_enter Try.func46, Try.ntmps46
  go_wp2_with fail
  obtain ⟨V, hV⟩ : ∃ V, V = (w.alloc (.cells #[.slice none 0 0, .int .i64 0, .int .i64 0] 33)).alloc (.cells #[] 53) := ⟨_, rfl⟩
  rw [← hV] at hO f2 hcm ⊢
  have kR := kR.fr f2
  have fV := f1.trans f2
  clear f1 f2 hs1 hW W hV
  refine (keys_maps mb V).mono ?_
  rintro e u1 ⟨rfl, rfl⟩
  clear hcm
  go_wp2_with fail
  refine (sortedO_any mb N os _ V (HH.out.1.fr fV).map hr hi (by omega)).mono ?_
  rintro e u2 ⟨ko, kc, rfl, hK, hKb, f2⟩
  have HV : Hid (Fr w V) := fV
  have fV2 := fV.trans f2
  replace hO := hO.fr f2
  replace kR := kR.fr f2
  clear fV f2 hr hi
  go_wp2_with fail
  have hkl : (os.map fun o => (o.g, o.f)).length = os.length := List.length_map ..
  go_loopw [3, 14] (fun v i wr => ∃ k : Nat, k ≤ os.length ∧ i = .int .i64 k ∧ OwnG LO wr w.heap.size v (os.take k) ∧ Fr w wr ∧ Hid (ReadsG LK wr ko (os.map fun o => (o.g, o.f)) ∧ ∀ kb, blk ko = some kb → ∃ cur fr, wr.heap[kb]? = some (Obj.cells cur 74 fr)) ∧ KyZ wr w.heap.size 33 #[.slice none 0 0, .int .i64 0, .int .i64 0]) (fun _ i _ => os.length - (intOf i).toNat)
  case atStart => exact ⟨0, Nat.zero_le _, rfl, hO, fV2, ⟨hK, fun kb q => (hKb kb q).2⟩, kR⟩
  case round =>
    clear hO fV2 hK kR
    obtain ⟨k, hk, rfl, hO, hF, HK, kR⟩ := hrel
    by_cases hlt : k < os.length
    · obtain ⟨eb, off, rfl, hc⟩ := HK.out.1.at_ k (by rw [hkl]; exact hlt)
      have d0 := hc k (by rw [hkl]; exact hlt) 0 (by decide)
      have d1 := hc k (by rw [hkl]; exact hlt) 1 (by decide)
      simp only [List.getElem_map] at d0 d1
      obtain ⟨y, hy⟩ : ∃ y, y = os[k] := ⟨_, rfl⟩
      have HY : Hid (y = os[k] ∧ os.take (k + 1) = os.take k ++ [y] ∧ y ∈ os) := ⟨hy, by rw [hy, List.take_add_one, List.getElem?_eq_getElem hlt]; rfl, by rw [hy]; exact List.getElem_mem hlt⟩
      rw [← hy] at d0 d1
      have d0 : wr.cell? ⟨eb, off + k * 2, none⟩ = some (.int .i64 y.g) := d0
      have d1 : wr.cell? ⟨eb, off + k * 2 + 1, none⟩ = some (.int .i64 y.f) := d1
      clear hy hc
      have zO : KyZ (wr.alloc (.cells #[.int .i64 y.g, .int .i64 y.f] 74)) wr.heap.size 74 #[.int .i64 y.g, .int .i64 y.f] := heap_alloc_new wr _
      have fz := Fr.alloc wr (.cells #[.int .i64 y.g, .int .i64 y.f] 74)
      go_wp2_with fail
      obtain ⟨FV, hFV⟩ : ∃ FV : Value, FV = .func (.func 73) #[] #[.pointer (some ⟨V.heap.size, 0, none⟩)] := ⟨_, rfl⟩
      rw [← hFV]
      obtain ⟨U, hU0⟩ : ∃ U, U = wr.alloc (.cells #[.int .i64 y.g, .int .i64 y.f] 74) := ⟨_, rfl⟩
      rw [← hU0] at zO fz ⊢
      obtain ⟨O, hO2⟩ : ∃ O, O = wr.heap.size := ⟨_, rfl⟩
      rw [← hO2] at zO ⊢
      have HFV : Hid (FV = .func (.func 73) #[] #[.pointer (some ⟨V.heap.size, 0, none⟩)]) := hFV
      clear hFV hU0 hO2 d0 d1
      obtain ⟨P, hP⟩ : ∃ P, P = B y.g y.f := ⟨_, rfl⟩
      have HP : Hid (P = B y.g y.f) := hP
      clear hP
      have HG : Hid (∀ q, Fr U q → (Instr.lookup 88 (.map (some mb)) (kyV y.g y.f) false).run Try.prog q = .ok (lbV c P) q) := fun q kq => by
        rw [HP.out]
        exact (HH.out.1.fr (hF.trans (fz.trans kq))).map.look Try.underlying88 (zeroLb q) (HH.out.2.2.1 y HY.out.2.2).1 (HH.out.2.2.1 y HY.out.2.2).2 (by rw [getO_mem HH.out.2.1 HY.out.2.2]; rfl)
      have HC : Hid (∀ q, Fr U q → q.cell? ⟨wb, 22, none⟩ = some (.map (some mb)) ∧ KyZ q O 74 #[.int .i64 y.g, .int .i64 y.f] ∧ BuZ q P #[.int .i64 y.b.l, .int .i64 y.b.s, .int .i64 y.b.g]) := fun q kq => by
        have h1 := HH.out.1.fr (hF.trans (fz.trans kq))
        exact ⟨h1.box.cm, zO.fr kq, by rw [HP.out]; exact h1.bur y HY.out.2.2⟩
      refine wp_region_once2 16 dsM coM (fun X => { tmps := #[.pointer (some ⟨wb, 0, none⟩), undef, .pointer (some ⟨w.heap.size, 0, none⟩), u3, undef, .pointer (some ⟨O, 0, none⟩), .slice (some ⟨w.heap.size + 1, 0, none⟩) 0 0, .pointer (some ⟨wb, 0, none⟩), .pointer (some ⟨wb, 0, none⟩), .pointer (some ⟨wb, 22, none⟩), .map (some mb), FV, .slice (some ⟨eb, off, none⟩) os.length kc, .int .i64 os.length, .int .i64 k, .bool true, .pointer (some ⟨eb, off + k * 2, none⟩), .agg #[.int .i64 y.g, .int .i64 y.f], X 18, X 19, X 20, X 21, X 22, X 23, X 24, X 25, X 26, X 27, X 28, X 29, X 30, X 31, X 32, X 33, u34, u35, undef, undef, undef, undef, undef, undef, undef, undef, undef, undef], defers := [] }) (RM wb mb O u3 y c P) (by kernel_rfl) (by kernel_rfl) (by kernel_rfl) (by kernel_rfl) (by kernel_rfl) (fun i j _ _ e => by unfold dsM at e; omega) (by kernel_rfl) (fun i => #[u18, u19, u20, u21, u22, u23, u24, u25, u26, u27, u28, u29, u30, u31, u32, u33].getD (i - 18) undef) rfl RM.st ?_ ?_
      · intro i o X q hi ho hU hE
        obtain ⟨c22, zv, bv⟩ := HC.out q hU
        have o0 := zv.c0
        have o1 := zv.c1
        have b0 := bv.c0
        have b1 := bv.c1
        have b2 := bv.c2
        clear zv bv
        rcases i with _ | _ | _ | _ | _ | _ | _ | _ | _ | _ | _ | _ | _ | _ | _ | _ | i
        · simp only [List.getElem?_toArray, List.getElem?_cons_zero, Option.some.injEq] at ho
          subst ho
          refine ⟨by simp [Region.wanted], ?_⟩
          go_simp
          exact ⟨_, (by simp [upd, dsM]), Fr.refl _, rfl⟩
        · simp only [List.getElem?_toArray, List.getElem?_cons_succ, List.getElem?_cons_zero, Option.some.injEq] at ho
          subst ho
          refine ⟨by simp [Region.wanted], ?_⟩
          go_simp
          exact ⟨_, (by simp [upd, dsM]), Fr.refl _, rfl⟩
        · simp only [List.getElem?_toArray, List.getElem?_cons_succ, List.getElem?_cons_zero, Option.some.injEq] at ho
          subst ho
          refine ⟨by simp [Region.wanted], ?_⟩
          have e1 : X 19 = .pointer (some ⟨O, 0, none⟩) := hE 1 (by decide) rfl
          try simp only [e1]
          go_simp
          exact ⟨_, (by simp [upd, dsM, e1]), Fr.refl _, rfl⟩
        · simp only [List.getElem?_toArray, List.getElem?_cons_succ, List.getElem?_cons_zero, Option.some.injEq] at ho
          subst ho
          refine ⟨by simp [Region.wanted], ?_⟩
          go_simp
          exact ⟨_, (by simp [upd, dsM]), Fr.refl _, rfl⟩
        · simp only [List.getElem?_toArray, List.getElem?_cons_succ, List.getElem?_cons_zero, Option.some.injEq] at ho
          subst ho
          refine ⟨by simp [Region.wanted], ?_⟩
          have e3 : X 21 = .pointer (some ⟨O, 1, none⟩) := hE 3 (by decide) rfl
          try simp only [e3]
          go_simp
          exact ⟨_, (by simp [upd, dsM, e3]), Fr.refl _, rfl⟩
        · simp only [List.getElem?_toArray, List.getElem?_cons_succ, List.getElem?_cons_zero, Option.some.injEq] at ho
          subst ho
          refine ⟨by simp [Region.wanted], ?_⟩
          go_simp
          exact ⟨_, (by simp [upd, dsM]), Fr.refl _, rfl⟩
        · simp only [List.getElem?_toArray, List.getElem?_cons_succ, List.getElem?_cons_zero, Option.some.injEq] at ho
          subst ho
          refine ⟨by simp [Region.wanted], ?_⟩
          have e5 : X 23 = .pointer (some ⟨wb, 0, none⟩) := hE 5 (by decide) rfl
          try simp only [e5]
          go_simp
          exact ⟨_, (by simp [upd, dsM, e5]), Fr.refl _, rfl⟩
        · simp only [List.getElem?_toArray, List.getElem?_cons_succ, List.getElem?_cons_zero, Option.some.injEq] at ho
          subst ho
          refine ⟨by simp [Region.wanted], ?_⟩
          have e6 : X 24 = .pointer (some ⟨wb, 0, none⟩) := hE 6 (by decide) rfl
          try simp only [e6]
          go_simp
          exact ⟨_, (by simp [upd, dsM, e6]), Fr.refl _, rfl⟩
        · simp only [List.getElem?_toArray, List.getElem?_cons_succ, List.getElem?_cons_zero, Option.some.injEq] at ho
          subst ho
          refine ⟨by simp [Region.wanted], ?_⟩
          have e7 : X 25 = .pointer (some ⟨wb, 22, none⟩) := hE 7 (by decide) rfl
          try simp only [e7]
          go_simp
          exact ⟨_, (by simp [upd, dsM, e7]), Fr.refl _, rfl⟩
        · simp only [List.getElem?_toArray, List.getElem?_cons_succ, List.getElem?_cons_zero, Option.some.injEq] at ho
          subst ho
          refine ⟨by simp [Region.wanted], ?_⟩
          go_simp
          exact ⟨_, (by simp [upd, dsM]), Fr.refl _, rfl⟩
        · simp only [List.getElem?_toArray, List.getElem?_cons_succ, List.getElem?_cons_zero, Option.some.injEq] at ho
          subst ho
          refine ⟨by simp [Region.wanted], ?_⟩
          have e8 : X 26 = .map (some mb) := hE 8 (by decide) rfl
          have e9 : X 27 = kyV y.g y.f := hE 9 (by decide) rfl
          have hl0 := HG.out q hU
          have hl0 : (Instr.lookup 88 (X 26) (X 27) false).run Try.prog q = .ok (lbV c P) q := by rw [e8, e9]; exact hl0
          refine wp_look 88 (.tmp 26) (.tmp 27) false rfl hl0 ?_
          simp only [Act.put, List.setIfInBounds_toArray, List.set_cons_succ, List.set_cons_zero]
          exact ⟨_, (by simp [upd, dsM, e8, e9]), Fr.refl _, rfl⟩
        · simp only [List.getElem?_toArray, List.getElem?_cons_succ, List.getElem?_cons_zero, Option.some.injEq] at ho
          subst ho
          refine ⟨by simp [Region.wanted], ?_⟩
          have e10 : X 28 = lbV c P := hE 10 (by decide) rfl
          have hl0 : (Instr.field 93 (X 28) 0).run Try.prog q = .ok (.pointer (some ⟨P, 0, none⟩)) q := by rw [e10]; kernel_rfl
          refine wp_field2 93 (.tmp 28) 0 rfl hl0 ?_
          simp only [Act.put, List.setIfInBounds_toArray, List.set_cons_succ, List.set_cons_zero]
          exact ⟨_, (by simp [upd, dsM, e10]), Fr.refl _, rfl⟩
        · simp only [List.getElem?_toArray, List.getElem?_cons_succ, List.getElem?_cons_zero, Option.some.injEq] at ho
          subst ho
          refine ⟨by simp [Region.wanted], ?_⟩
          have e11 : X 29 = .pointer (some ⟨P, 0, none⟩) := hE 11 (by decide) rfl
          try simp only [e11]
          go_simp
          exact ⟨_, (by simp [upd, dsM, e11]), Fr.refl _, rfl⟩
        · simp only [List.getElem?_toArray, List.getElem?_cons_succ, List.getElem?_cons_zero, Option.some.injEq] at ho
          subst ho
          refine ⟨by simp [Region.wanted], ?_⟩
          have e12 : X 30 = .pointer (some ⟨P, 0, none⟩) := hE 12 (by decide) rfl
          try simp only [e12]
          go_simp
          exact ⟨_, (by simp [upd, dsM, e12]), Fr.refl _, rfl⟩
        · simp only [List.getElem?_toArray, List.getElem?_cons_succ, List.getElem?_cons_zero, Option.some.injEq] at ho
          subst ho
          refine ⟨by simp [Region.wanted], ?_⟩
          have e2 : X 20 = .int .i64 y.g := hE 2 (by decide) rfl
          have e4 : X 22 = .int .i64 y.f := hE 4 (by decide) rfl
          have e13 : X 31 = .agg #[.int .i64 y.b.l, .int .i64 y.b.s, .int .i64 y.b.g] := hE 13 (by decide) rfl
          try simp only [e2, e4, e13]
          go_simp
          exact ⟨_, (by simp [upd, dsM, e2, e4, e13]), Fr.refl _, rfl⟩
        · simp only [List.getElem?_toArray, List.getElem?_cons_succ, List.getElem?_cons_zero, Option.some.injEq] at ho
          subst ho
          refine ⟨by simp [Region.wanted], ?_⟩
          have e14 : X 32 = .agg #[.int .i64 y.g, .int .i64 y.f, .int .i64 y.b.l, .int .i64 y.b.s, .int .i64 y.b.g] := hE 14 (by decide) rfl
          simp only [e14]
          go_simp
          exact ⟨_, (by simp [upd, dsM, e14]), Fr.alloc _ _, q.heap.size, rfl, heap_alloc_new q _⟩
        · omega
      · intro o o2 X q ho ho2 hU hE
        simp only [List.getElem?_toArray, List.getElem?_cons_succ, List.getElem?_cons_zero, Option.some.injEq] at ho ho2
        subst ho
        subst ho2
        refine ⟨by simp [Region.wanted], ?_⟩
        have e0 : X 18 = u3 := hE 0 (by decide) rfl
        obtain ⟨qb, e15, zq⟩ : ∃ qb, X 33 = .slice (some ⟨qb, 0, none⟩) 1 1 ∧ OwZ q qb #[.int .i64 y.g, .int .i64 y.f, .int .i64 y.b.l, .int .i64 y.b.s, .int .i64 y.b.g] := hE 15 (by decide) rfl
        have hOq := (hO.fr fz).fr hU
        obtain ⟨w0, w1, w2, w3, w4⟩ := zq.cs
        refine op_appG LO (.tmp 18) (.tmp 33) 31 (.agg #[.int .i64 0, .int .i64 0, .int .i64 0, .int .i64 0, .int .i64 0]) 40 rfl Try.underlying31 (by kernel_rfl) rfl (by decide) w.heap.size u3 (os.take k) y e0 hOq (by have := hF.size; have := fz.size; have := hU.size; omega) qb 1 e15 (fun j hj => by
          have hj : j < 5 := hj
          rcases j with _ | _ | _ | _ | _ | j
          · exact w0
          · exact w1
          · exact w2
          · exact w3
          · exact w4
          · omega) (by rw [List.length_take]; have := HH.out.2.2.2; omega) ?_
        intro v' w' hv' gv
        have hF2 : Fr w w' := (hF.trans (fz.trans hU)).then gv (fun j e => hO.blk j e)
        have hne : ∀ kb cur t fr, wr.heap[kb]? = some (Obj.cells cur t fr) → t ≠ 53 → u3.ownBlock ≠ some kb := fun kb cur t fr hkb ht e => by
          obtain ⟨g0, c0, e0, ho, -⟩ := hO
          rw [e0] at e
          simp only [Value.ownBlock, Option.some.injEq] at e
          subst e
          rcases ho.2 with ⟨e1, -⟩ | ⟨g1, c1, cu, e1, -, hc1, -⟩
          · cases e1
          · cases e1
            rw [hc1] at hkb
            exact ht (Obj.cells.inj (Option.some.inj hkb)).2.1.symm
        have hKq := (((HK.out.1).fr fz).fr hU).keep gv (.inr (by
          obtain ⟨cur, fr, h1⟩ := HK.out.2 eb rfl
          exact fun e => hne eb cur _ fr h1 (by decide) e.symm))
        have hTq : ∃ cur fr, w'.heap[eb]? = some (Obj.cells cur 74 fr) := by
          obtain ⟨cur, fr, h1⟩ := HK.out.2 eb rfl
          have hlt1 := (Array.getElem?_eq_some_iff.1 h1).1
          have h2 := (fz.trans hU).block eb hlt1 (by simp)
          have hz := (fz.trans hU).size
          exact ⟨cur, fr, ((gv.block eb (by omega) (fun e => hne eb cur _ fr h1 (by decide) e.symm)).trans h2).trans h1⟩
        have kRq := ((kR.fr fz).fr hU).keep gv (hne _ _ _ _ kR (by decide))
        have HN : Hid (OwnG LO w' w.heap.size v' (os.take (k + 1)) ∧ Fr w w' ∧ (ReadsG LK w' (some ⟨eb, off, none⟩) (os.map fun o => (o.g, o.f)) ∧ ∀ kb, blk (some (⟨eb, off, none⟩ : Addr)) = some kb → ∃ cur fr, w'.heap[kb]? = some (Obj.cells cur 74 fr))) := ⟨by rw [HY.out.2.1]; exact hv', hF2, hKq, fun kb e => by simp only [blk, Option.map_some, Option.some.injEq] at e; subst e; exact hTq⟩
        refine ⟨by simp [Region.wanted], ?_⟩
        simp only [Act.put, List.setIfInBounds_toArray, List.set_cons_succ, List.set_cons_zero]
        clear hE e0 e15 zq hOq w0 w1 w2 w3 w4 hv' gv hF2 hne hKq hTq HC HG HP HK hF hO fz zO hU HY
        go_simp
        rw [HFV.out]
        go_wp2_with fail
        go_roundw
        case rel => exact ⟨k + 1, by omega, by go_num, HN.out.1, HN.out.2.1, HN.out.2.2, kRq⟩
        case measure => simp [intOf]; omega
    · obtain rfl : k = os.length := by omega
      rw [List.take_length] at hO
      have hO0 := hO
      obtain ⟨g0, c0, rfl, ho, hl0⟩ := hO
      have hb := (HH.out.1.fr hF).box
      have q0 : ∀ s : Later wr, s.u.cell? ⟨wb, 23, none⟩ = some (.int .i64 p) := fun s => s.fr.cell hb.cp
      have q1 : ∀ s : Later wr, s.u.cell? ⟨wb, 24, none⟩ = some (.int .i64 u) := fun s => s.fr.cell hb.cu
      have hne := Later.some wr
      have HO : Hid (OwnG LO wr w.heap.size (.slice (some ⟨g0, 0, none⟩) os.length c0) os ∧ Fr w wr) := ⟨hO0, hF⟩
      clear hb ho hl0 hO0 HK
      go_wp2_with fail
      refine wp_region_force (C := fun w' => ∃ s : Later wr, w' = s.u) (C2 := fun w' => KyZ w' w.heap.size 33 #[.slice (some ⟨g0, 0, none⟩) os.length c0, .int .i64 p, .int .i64 u] ∧ OwnG LO w' w.heap.size (.slice (some ⟨g0, 0, none⟩) os.length c0) os ∧ Fr w w') 10 0 (by kernel_rfl) (by kernel_rfl) ⟨⟨wr.drew, Fr.drew wr⟩, rfl⟩ ?_
      simp only [List.take_succ_cons, List.take_zero, List.drop_succ_cons, List.drop_zero]
      repeat (go_big_quiet_step (fail))
      refine wpQuiet_nil ?_
      rintro _ ⟨σ, rfl⟩
      refine ⟨rfl, ?_⟩
      have kz := kR.fr σ.fr
      have gR := LcZ.grown σ.u w.heap.size #[.slice (some ⟨g0, 0, none⟩) os.length c0, .int .i64 p, .int .i64 u]
      refine wp_store_row 33 (.tmp 2) (.tmp 45) rfl w.heap.size #[.slice (some ⟨g0, 0, none⟩) os.length c0, .int .i64 p, .int .i64 u] rfl rfl 33 _ kz (by kernel_rfl) rfl (by simp [Value.oneCell']) ?_
      refine ⟨⟨kz.setRow, (HO.out.1.fr σ.fr).keep gR ?_, (HO.out.2.trans σ.fr).then gR (fun j e => by cases e; omega)⟩, ?_⟩
      · intro e
        obtain ⟨g1, c1, e1, ho, -⟩ := HO.out.1
        cases e1
        simp only [Value.ownBlock, Option.some.injEq] at e
        rcases ho.2 with ⟨e1, -⟩ | ⟨g2, c2, cu, e1, -, hc1, -⟩
        · cases e1
        · cases e1
          have h9 := kR
          unfold KyZ at h9
          rw [e, h9] at hc1
          exact absurd (Obj.cells.inj (Option.some.inj hc1)).2.1 (by decide)
      refine wpQuiet_nil ?_
      rintro w5 ⟨k5, o5, f5⟩
      simp only [Act.put]
      obtain ⟨r0, r1, r2⟩ := k5.c3
      go_wp2_with fail
      refine bodyPost_ret (v := .agg #[.slice (some ⟨g0, 0, none⟩) os.length c0, .int .i64 p, .int .i64 u]) (by simp [results, Try.results46, go_sem, r0, r1, r2]) rfl ⟨_, _, _, rfl, o5, f5⟩
end Go.Proofs.Ytkfcchapfklpgaa
/-
  A watch looks.
-/
namespace Go.Proofs.Ytkfcchapfklpgaa
open Go.RowKit

/-- What a watch leaves as it is: what lies below lo, and all cells but bursts and watches. -/
structure KpW (lo : Nat) (w w' : World) : Prop where
  os : w'.os = w.os
  tape : w'.tape = w.tape
  output : w'.output = w.output
  size : w.heap.size ≤ w'.heap.size
  low : ∀ k, k < lo → k < w.heap.size → w'.heap[k]? = w.heap[k]?
  kept : ∀ (k : Nat) (cs : Array Value) (t : TypeId) (fr : Nat × Nat), w.heap[k]? = some (Obj.cells cs t fr) → t ≠ 51 → t ≠ 90 → w'.heap[k]? = some (Obj.cells cs t fr)
theorem KpW.refl (lo : Nat) (w : World) : KpW lo w w := ⟨rfl, rfl, rfl, Nat.le_refl _, fun _ _ _ => rfl, fun _ _ _ _ h _ _ => h⟩
theorem KpW.trans {lo : Nat} {a b c : World} (h : KpW lo a b) (k : KpW lo b c) : KpW lo a c :=
  ⟨k.os.trans h.os, k.tape.trans h.tape, k.output.trans h.output, Nat.le_trans h.size k.size, fun i hi ha => (k.low i hi (Nat.lt_of_lt_of_le ha h.size)).trans (h.low i hi ha), fun i cs t fr h1 h2 h3 => k.kept i cs t fr (h.kept i cs t fr h1 h2 h3) h2 h3⟩
theorem KpW.of_fr {lo : Nat} {w w' : World} (h : Fr w w') : KpW lo w w' :=
  ⟨h.os, h.tape, h.output, h.size, fun k _ ha => h.block k ha (by simp), fun k cs t fr h1 _ _ => (h.block k (Array.getElem?_eq_some_iff.1 h1).1 (by simp)).trans h1⟩
theorem KpW.of_row {lo r : Nat} {w w' : World} (h : w.grownBy w' (some r)) (hr : lo ≤ r) (hc : ∀ (cs : Array Value) (t : TypeId) (fr : Nat × Nat), w.heap[r]? = some (Obj.cells cs t fr) → t = 51 ∨ t = 90) : KpW lo w w' :=
  ⟨h.os, h.tape, h.output, h.size, fun k hk ha => h.block k ha (fun e => by cases e; omega), fun k cs t fr h1 h2 h3 => (h.block k (Array.getElem?_eq_some_iff.1 h1).1 (fun e => by
    cases e
    rcases hc cs t fr h1 with e | e
    · exact h2 e
    · exact h3 e)).trans h1⟩
theorem KpW.below {lo : Nat} {w w' : World} (h : KpW lo w w') (hlo : lo ≤ w.heap.size) : Below lo w w' := ⟨h.os, h.tape, h.output, h.size, fun k hk => h.low k hk (by omega)⟩
theorem KpW.at_map {lo mb N : Nat} {w w' : World} {os : List Ow} {V : Int → Int → Value} (hM : MapO w mb N os V) (hl : lo ≤ mb) (k : w.grownBy w' (some mb)) : KpW lo w w' :=
  .of_row k hl fun _ _ _ h => absurd rfl (hM.ne h)
theorem KpW.at_bur {lo p : Nat} {w w' : World} {cs : Array Value} (hB : BuZ w p cs) (hl : lo ≤ p) (k : w.grownBy w' (some p)) : KpW lo w w' :=
  .of_row k hl fun _ _ _ h => by
    unfold BuZ at hB
    rw [hB] at h
    exact .inl (Obj.cells.inj (Option.some.inj h)).2.1.symm
theorem KpW.at_wt {lo b : Nat} {w w' : World} {c : Cf} {x m p u : Value} (hB : WtZ w b c x m p u) (hl : lo ≤ b) (k : w.grownBy w' (some b)) : KpW lo w w' :=
  .of_row k hl fun _ _ _ h => by
    unfold WtZ at hB
    rw [hB] at h
    exact .inr (Obj.cells.inj (Option.some.inj h)).2.1.symm
/-- Draws that lie below lo. -/
theorem KpW.reads {lo : Nat} {w w' : World} (h : KpW lo w w') {ao : Option Addr} {xs : List Int} (hr : Reads w ao xs) (hb : ∀ k, blk ao = some k → k < lo) : Reads w' ao xs := by
  refine ⟨hr.len, hr.bd, fun i hi => ?_⟩
  obtain ⟨b, off, e, hc⟩ := hr.at_ i hi
  refine ⟨b, off, e, fun j hj => ?_⟩
  have h1 := hc j hj
  have hbl := hb b (by rw [e]; rfl)
  have hlt : b < w.heap.size := by
    by_cases q : b < w.heap.size
    · exact q
    · simp [World.cell?, Array.getElem?_eq_none (show w.heap.size ≤ b by omega)] at h1
  rw [← h1]
  simp only [World.cell?, h.low b hbl hlt]

theorem burstOf_any {lo : Nat} {w : World} {wb mb : Nat} {c : Cf} {x : Value} {s : Smp} {B : Int → Int → Nat} {N : Nat} (h : WatW lo w wb mb c x s B N) (hr : RisO s.os) (hlo : lo ≤ w.heap.size) (hN : N < 1000000) {g f : Int} (hg : I64 g) (hf : I64 f) :
    Calls Try.prog 61 #[.pointer (some ⟨wb, 0, none⟩), .agg #[.int .i64 g, .int .i64 f]] w fun e w' => ∃ p B', e = .returned (lbV c p) ∧ WatW lo w' wb mb c x ⟨putO s.os ⟨g, f, ofO c s.os g f⟩, s.p, s.u⟩ B' (N + 1) ∧ B' g f = p ∧ KpW lo w w' := by
  cases hb : getO s.os g f with
  | none =>
    refine (burstOf_new h hr hlo hN hg hf hb).mono ?_
    rintro e w' ⟨p, rfl, h1, h2⟩
    refine ⟨p, fun i j => if i = g ∧ j = f then p else B i j, rfl, ?_, ?_, .at_map h.map h.low.2.1 h2⟩
    · rw [show ofO c s.os g f = nwB c by rw [ofO, hb]; rfl]
      exact h1
    · simp
  | some b =>
    refine (burstOf_has h hg hf (by rw [hb]; rfl)).mono ?_
    rintro e w' ⟨rfl, h1⟩
    refine ⟨B g f, B, rfl, ?_, rfl, .of_fr h1⟩
    rw [show ofO c s.os g f = b by rw [ofO, hb]; rfl, putO_same hr hb]
    have h2 := h.fr h1
    exact ⟨h2.box, h2.map.mono (by omega), h2.bur, h2.inj, h2.low⟩
end Go.Proofs.Ytkfcchapfklpgaa
