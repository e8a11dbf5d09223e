/-
  Pack AG: ScK, ScMap, ScRise.
-/
import Derived.Test.YtplnijpolkflcaaGreatDoorPqAF
import Derived.Test.YtplnijpolkflcaaGreatDoorPqAE
import Derived.Maps.OwnSet
namespace Go.Proofs.YtplnijpolkflcaaGreatDoor
open Go.RowKit

def Grew (B : Nat → Prop) (w w' : World) (b : Nat) : Prop := B b ∨ (w.heap.size ≤ b ∧ b < w'.heap.size)
theorem InB.mono {B B' : Nat → Prop} {ao : Option Addr} (h : InB B ao) (hB : ∀ b, B b → B' b) : InB B' ao := fun b e => hB b (h b e)
theorem LkR.mono {B B' : Nat → Prop} {w : World} {lv : Lv} {l : Lk} (h : LkR B w lv l) (hB : ∀ b, B b → B' b) : LkR B' w lv l :=
  ⟨h.o, h.wr, h.rn, h.rd, h.bl.mono hB, h.rc, h.sz, h.io, h.iw⟩
theorem LksR.mono {B B' : Nat → Prop} {w : World} {lvs : List Lv} {ls : List Lk} (h : LksR B w lvs ls) (hB : ∀ b, B b → B' b) : LksR B' w lvs ls :=
  ⟨h.len, fun j h1 h2 => (h.at_ j h1 h2).mono hB⟩
theorem ScR.mono {B B' : Nat → Prop} {w : World} {s : Sv} {m : Scn} (h : ScR B w s m) (hB : ∀ b, B b → B' b) : ScR B' w s m := by
  obtain ⟨lvs, h1, h2, h3⟩ := h.lks
  exact { h with lks := ⟨lvs, h1, h2, h3.mono hB⟩, bl := h.bl.mono hB, bc := h.bc.mono hB, bn := h.bn.mono hB, bo := h.bo.mono hB }
theorem Grew.old {B : Nat → Prop} {w w' : World} : ∀ b, B b → Grew B w w' b := fun _ h => .inl h
theorem Grew.trans {B : Nat → Prop} {w w1 w2 : World} (h : w.heap.size ≤ w1.heap.size) (h2 : w1.heap.size ≤ w2.heap.size) : ∀ b, Grew (Grew B w w1) w1 w2 b → Grew B w w2 b := by
  rintro b ((hb | ⟨h3, h4⟩) | ⟨h3, h4⟩)
  · exact .inl hb
  · exact .inr ⟨h3, by omega⟩
  · exact .inr ⟨by omega, h4⟩
theorem Grew.wide {B : Nat → Prop} {w w0 w1 w2 : World} (h : w0.heap.size ≤ w.heap.size) (h2 : w1.heap.size ≤ w2.heap.size) : ∀ b, Grew B w w1 b → Grew B w0 w2 b := by
  rintro b (hb | ⟨h3, h4⟩)
  · exact .inl hb
  · exact .inr ⟨by omega, by omega⟩

def ScK (w : World) (b : Nat) (s : Sv) : Prop := w.heap[b]? = some (.cells #[.int .i64 s.g, .slice s.lo s.ll s.lc, .slice s.co s.cl s.cc, .slice s.no s.nl s.nc, .slice s.oo s.ol s.oc] 29 (0, 0))
theorem ScK.lt {w : World} {b : Nat} {s : Sv} (h : ScK w b s) : b < w.heap.size := (Array.getElem?_eq_some_iff.1 h).1
theorem ScK.keep {w w' : World} {b : Nat} {s : Sv} {row : Option Nat} (h : ScK w b s) (k : w.grownBy w' row) (hr : row ≠ some b) : ScK w' b s := (k.block b h.lt (fun q => hr q.symm)).trans h
theorem ScK.fr {w w' : World} {b : Nat} {s : Sv} (h : ScK w b s) (k : Fr w w') : ScK w' b s := h.keep k (by simp)
theorem ScK.new (w : World) (s : Sv) : ScK (w.alloc (.cells #[.int .i64 s.g, .slice s.lo s.ll s.lc, .slice s.co s.cl s.cc, .slice s.no s.nl s.nc, .slice s.oo s.ol s.oc] 29)) w.heap.size s := heap_alloc_new w _
theorem ScK.at {w : World} {b : Nat} {s : Sv} (h : ScK w b s) : ScB w b s := by
  have h' : w.heap[b]? = some (.cells #[.int .i64 s.g, .slice s.lo s.ll s.lc, .slice s.co s.cl s.cc, .slice s.no s.nl s.nc, .slice s.oo s.ol s.oc] 29 (0, 0)) := h
  constructor <;> simp [World.cell?, h']
theorem ScK.free {w : World} {b : Nat} {s : Sv} (h : ScK w b s) (i : Nat) : w.frozen? ⟨b, i, none⟩ = false := frozen_of_row w b i _ _ h
theorem put5 (w : World) (r : Nat) (v0 v1 v2 v3 v4 : Value) :
    w.grownBy (((((w.setCell ⟨r, 0, none⟩ v0).setCell ⟨r, 1, none⟩ v1).setCell ⟨r, 2, none⟩ v2).setCell ⟨r, 3, none⟩ v3).setCell ⟨r, 4, none⟩ v4) (some r) :=
  grown_trans (grown_trans (grown_trans (grown_trans (grown_set _ r 0 _) (grown_set _ r 1 _)) (grown_set _ r 2 _)) (grown_set _ r 3 _)) (grown_set _ r 4 _)

def LvK (w : World) (b : Nat) (l : Lv) : Prop := w.heap[b]? = some (.cells #[.int .i64 l.o, .int .i64 l.wr, .slice l.ro l.rn l.rc] 82 (0, 0))
theorem LvK.lt {w : World} {b : Nat} {l : Lv} (h : LvK w b l) : b < w.heap.size := (Array.getElem?_eq_some_iff.1 h).1
theorem LvK.keep {w w' : World} {b : Nat} {l : Lv} {row : Option Nat} (h : LvK w b l) (k : w.grownBy w' row) (hr : row ≠ some b) : LvK w' b l := (k.block b h.lt (fun q => hr q.symm)).trans h
theorem LvK.new (w : World) (l : Lv) : LvK (w.alloc (.cells #[.int .i64 l.o, .int .i64 l.wr, .slice l.ro l.rn l.rc] 82)) w.heap.size l := heap_alloc_new w _
theorem LvK.at {w : World} {b : Nat} {l : Lv} (h : LvK w b l) : w.cell? ⟨b, 0, none⟩ = some (.int .i64 l.o) ∧ w.cell? ⟨b, 1, none⟩ = some (.int .i64 l.wr) ∧ w.cell? ⟨b, 2, none⟩ = some (.slice l.ro l.rn l.rc) := by
  have h' : w.heap[b]? = some (.cells #[.int .i64 l.o, .int .i64 l.wr, .slice l.ro l.rn l.rc] 82 (0, 0)) := h
  refine ⟨?_, ?_, ?_⟩ <;> simp [World.cell?, h']
theorem LvK.free {w : World} {b : Nat} {l : Lv} (h : LvK w b l) (i : Nat) : w.frozen? ⟨b, i, none⟩ = false := frozen_of_row w b i _ _ h
theorem LvK.setW {w : World} {b : Nat} {l : Lv} (h : LvK w b l) (x : Int) : LvK (w.setCell ⟨b, 1, none⟩ (.int .i64 x)) b { l with wr := x } := by
  exact heap_setCell_same w b 1 _ _ (.int .i64 x) h
theorem LvK.setR {w : World} {b : Nat} {l : Lv} (h : LvK w b l) (ao : Option Addr) (n c : Nat) : LvK (w.setCell ⟨b, 2, none⟩ (.slice ao n c)) b { l with ro := ao, rn := n, rc := c } := by
  exact heap_setCell_same w b 2 _ _ (.slice ao n c) h
def ChK (w : World) (b : Nat) (c : Ch) : Prop := w.heap[b]? = some (.cells #[.int .i64 c.o, .int .i64 c.cap, .int .i64 c.sent, .int .i64 c.got, .bool c.cl] 85 (0, 0))
theorem ChK.lt {w : World} {b : Nat} {c : Ch} (h : ChK w b c) : b < w.heap.size := (Array.getElem?_eq_some_iff.1 h).1
theorem ChK.keep {w w' : World} {b : Nat} {c : Ch} {row : Option Nat} (h : ChK w b c) (k : w.grownBy w' row) (hr : row ≠ some b) : ChK w' b c := (k.block b h.lt (fun q => hr q.symm)).trans h
theorem ChK.new (w : World) (c : Ch) : ChK (w.alloc (.cells #[.int .i64 c.o, .int .i64 c.cap, .int .i64 c.sent, .int .i64 c.got, .bool c.cl] 85)) w.heap.size c := heap_alloc_new w _
theorem ChK.at {w : World} {b : Nat} {c : Ch} (h : ChK w b c) : w.cell? ⟨b, 0, none⟩ = some (.int .i64 c.o) ∧ w.cell? ⟨b, 1, none⟩ = some (.int .i64 c.cap) ∧ w.cell? ⟨b, 2, none⟩ = some (.int .i64 c.sent) ∧ w.cell? ⟨b, 3, none⟩ = some (.int .i64 c.got) ∧ w.cell? ⟨b, 4, none⟩ = some (.bool c.cl) := by
  have h' : w.heap[b]? = some (.cells #[.int .i64 c.o, .int .i64 c.cap, .int .i64 c.sent, .int .i64 c.got, .bool c.cl] 85 (0, 0)) := h
  refine ⟨?_, ?_, ?_, ?_, ?_⟩ <;> simp [World.cell?, h']
theorem ChK.free {w : World} {b : Nat} {c : Ch} (h : ChK w b c) (i : Nat) : w.frozen? ⟨b, i, none⟩ = false := frozen_of_row w b i _ _ h
theorem ChK.set1 {w : World} {b : Nat} {c : Ch} (h : ChK w b c) (x : Int) : ChK (w.setCell ⟨b, 1, none⟩ (.int .i64 x)) b { c with cap := x } := by
  exact heap_setCell_same w b 1 _ _ (.int .i64 x) h
theorem ChK.set2 {w : World} {b : Nat} {c : Ch} (h : ChK w b c) (x : Int) : ChK (w.setCell ⟨b, 2, none⟩ (.int .i64 x)) b { c with sent := x } := by
  exact heap_setCell_same w b 2 _ _ (.int .i64 x) h
theorem ChK.set3 {w : World} {b : Nat} {c : Ch} (h : ChK w b c) (x : Int) : ChK (w.setCell ⟨b, 3, none⟩ (.int .i64 x)) b { c with got := x } := by
  exact heap_setCell_same w b 3 _ _ (.int .i64 x) h
theorem ChK.set4 {w : World} {b : Nat} {c : Ch} (h : ChK w b c) (x : Bool) : ChK (w.setCell ⟨b, 4, none⟩ (.bool x)) b { c with cl := x } := by
  exact heap_setCell_same w b 4 _ _ (.bool x) h
theorem ScK.setG {w : World} {b : Nat} {s : Sv} (h : ScK w b s) (x : Int) : ScK (w.setCell ⟨b, 0, none⟩ (.int .i64 x)) b { s with g := x } := by
  exact heap_setCell_same w b 0 _ _ (.int .i64 x) h
theorem ScK.setO {w : World} {b : Nat} {s : Sv} (h : ScK w b s) (ao : Option Addr) (n c : Nat) : ScK (w.setCell ⟨b, 4, none⟩ (.slice ao n c)) b { s with oo := ao, ol := n, oc := c } := by
  exact heap_setCell_same w b 4 _ _ (.slice ao n c) h

end Go.Proofs.YtplnijpolkflcaaGreatDoor
namespace Go.Proofs.YtplnijpolkflcaaGreatDoor
open Go.RowKit

def asIs (v : Value) : Option (DataW Value × List MemPlace) := some (.held v, [])
theorem keyed64 : Maps.Keyed Tryz.prog 2 := Maps.int_keyed Tryz.underlying2
def MapF (w : World) (b n : Nat) (f : Int → Option Value) : Prop :=
  ∃ D : DataW Value, w.ownsMap Tryz.prog 2 asIs b n D ∧ ∀ i z, D.atKey (.int .i64 i) z = ((f i).map DataW.held).getD z

theorem lit64 {i : Int} (h : I64 i) : (Lit.int .i64 i).wf = true := by
  obtain ⟨h1, h2⟩ := h
  simp [Lit.wf, IntKind.min, IntKind.max, IntKind.signed, IntKind.bits]
  omega
theorem MapF.made (w : World) : MapF (w.alloc (.map #[] 0)) w.heap.size 0 (fun _ => none) :=
  ⟨.map [], World.ownsMap_made w _ _ _, fun _ _ => rfl⟩
theorem MapF.keep {w w' : World} {b n : Nat} {f : Int → Option Value} {row : Option Nat} (h : MapF w b n f) (k : w.grownBy w' row) (hr : some b ≠ row) : MapF w' b n f := by
  obtain ⟨D, h1, h2⟩ := h
  exact ⟨D, h1.kept k hr, h2⟩
theorem MapF.fr {w w' : World} {b n : Nat} {f : Int → Option Value} (h : MapF w b n f) (k : Fr w w') : MapF w' b n f := h.keep k (by simp)
theorem MapF.lt {w : World} {b n : Nat} {f : Int → Option Value} (h : MapF w b n f) : b < w.heap.size := by
  obtain ⟨D, h1, _⟩ := h
  exact h1.lt
theorem mapF_has {f : Int → Option Value} {D : DataW Value} (h : ∀ i z, D.atKey (.int .i64 i) z = ((f i).map DataW.held).getD z) (i : Int) : Maps.has D (.int .i64 i) = (f i).isSome := by
  cases hf : f i with
  | none => exact Maps.has_false_of_atKey fun z => by rw [h i z, hf]; rfl
  | some v => exact Maps.has_true_of_atKey (y := .held v) fun z => by rw [h i z, hf]; rfl
theorem MapF.look_ok {w : World} {b n : Nat} {f : Int → Option Value} (h : MapF w b n f) {t e : TypeId} (ht : Tryz.prog.underlying t = some (.map 2 e)) {z : Value} (hz : (zeroValue e).run Tryz.prog w = .ok z w) {i : Int} (hi : I64 i) :
    (Instr.lookup t (.map (some b)) (.int .i64 i) true).run Tryz.prog w = .ok (.tuple #[(f i).getD z, .bool (f i).isSome]) w := by
  obtain ⟨D, h1, h2⟩ := h
  obtain ⟨v, ps, hrun, hv⟩ := h1.look_ok keyed64 ht hz (zd := .held z) (zp := []) rfl (Maps.keyOf_int_mk Tryz.underlying2 (lit64 hi))
  rw [mapF_has h2] at hrun
  simp only [asIs, Option.some.injEq, Prod.mk.injEq] at hv
  have hv := hv.1
  rw [h2] at hv
  have : v = (f i).getD z := by
    cases hf : f i with
    | none => rw [hf] at hv; simpa using hv
    | some u => rw [hf] at hv; simpa using hv
  rw [hrun, this]
theorem MapF.look {w : World} {b n : Nat} {f : Int → Option Value} (h : MapF w b n f) {t e : TypeId} (ht : Tryz.prog.underlying t = some (.map 2 e)) {z : Value} (hz : (zeroValue e).run Tryz.prog w = .ok z w) {i : Int} (hi : I64 i) :
    (Instr.lookup t (.map (some b)) (.int .i64 i) false).run Tryz.prog w = .ok ((f i).getD z) w := by
  obtain ⟨D, h1, h2⟩ := h
  obtain ⟨v, ps, hrun, hv⟩ := h1.lookup keyed64 ht hz (zd := .held z) (zp := []) rfl (Maps.keyOf_int_mk Tryz.underlying2 (lit64 hi))
  simp only [asIs, Option.some.injEq, Prod.mk.injEq] at hv
  have hv := hv.1
  rw [h2] at hv
  have : v = (f i).getD z := by
    cases hf : f i with
    | none => rw [hf] at hv; simpa using hv
    | some u => rw [hf] at hv; simpa using hv
  rw [hrun, this]
def putM (f : Int → Option Value) (i : Int) (v : Value) : Int → Option Value := fun j => if j = i then some v else f j
theorem MapF.put {w : World} {b n : Nat} {f : Int → Option Value} (h : MapF w b n f) {t e : TypeId} (ht : Tryz.prog.underlying t = some (.map 2 e)) (hn : n < maxLen) {i : Int} (hi : I64 i) (v : Value) :
    ∃ w', (Instr.mapUpdate t (.map (some b)) (.int .i64 i) v).run Tryz.prog w = .ok () w' ∧ MapF w' b (n + 1) (putM f i v) ∧ w.grownBy w' (some b) := by
  obtain ⟨D, h1, h2⟩ := h
  obtain ⟨w', hrun, h3, h4⟩ := h1.update keyed64 ht hn (Maps.keyOf_int_mk Tryz.underlying2 (lit64 hi)) (val := v) (d := .held v) (ps := []) rfl
  refine ⟨w', hrun, ⟨_, h3, fun j z => ?_⟩, h4⟩
  unfold putM
  by_cases e : j = i
  · subst e
    rw [if_pos rfl, Maps.atKey_put_same h1.isMap (keyed64.key (Maps.keyOf_int_mk Tryz.underlying2 (lit64 hi)))]
    rfl
  · rw [if_neg e, Maps.atKey_put_other (by simpa using e), h2]
theorem wp_put {w : World} {ops : Array Oper} {rest : List Oper} {o : Oper} {a : Act} {Q : Exit → Act → World → Prop} (hg : o.guard = none) (m x u : Operand) (t : TypeId) (hop : o.op = Op.mapUpdate t m x u)
    {e : TypeId} (ht : Tryz.prog.underlying t = some (.map 2 e)) (b n : Nat) (f : Int → Option Value) (i : Int) (v : Value) (hm : a.eval m = .map (some b)) (hx : a.eval x = .int .i64 i) (hu : a.eval u = v) (h : MapF w b n f) (hn : n < maxLen) (hi : I64 i)
    (hK : ∀ w', MapF w' b (n + 1) (putM f i v) → w.grownBy w' (some b) → wpList Tryz.prog ops Q rest (a.put o.dst undef) w') : wpList Tryz.prog ops Q (o :: rest) a w := by
  refine wpList_plain hg fun K' hK' => ?_
  obtain ⟨w', hrun, r1, r2⟩ := h.put ht hn hi v
  unfold Oper.wp
  simp [execOp, hop, hm, hx, hu, hrun, Result.andThen]
  exact hK' _ _ (hK w' r1 r2)
end Go.Proofs.YtplnijpolkflcaaGreatDoor
namespace Go.Proofs.YtplnijpolkflcaaGreatDoor
open Go.RowKit

theorem within_any (x lo hi : Int) (w : World) :
    Calls Tryz.prog 63 #[.int .i64 x, .int .i64 lo, .int .i64 hi] w fun e w' => e = .returned (.bool (inB lo hi x)) ∧ w' = w := by
  by_cases h : lo ≤ x
  · by_cases h2 : x ≤ hi
    · rw [inB_mk h h2]
      go_enter Tryz.func63, Tryz.ntmps63
      go_wp2
      go_ret
      exact ⟨rfl, rfl⟩
    · rw [inB_not (by omega)]
      go_enter Tryz.func63, Tryz.ntmps63
      go_wp2
      go_ret
      exact ⟨rfl, rfl⟩
  · rw [inB_not (by omega)]
    go_enter Tryz.func63, Tryz.ntmps63
    go_wp2
    go_ret
    exact ⟨rfl, rfl⟩
theorem itself_any (x : Int) (w : World) :
    Calls Tryz.prog 68 #[.int .i64 x] w fun e w' => e = .returned (.int .i64 x) ∧ w' = w := by
  go_enter Tryz.func68, Tryz.ntmps68
  go_wp2
  go_ret
  exact ⟨rfl, rfl⟩
theorem lockNumber_any (l : Lv) (w : World) :
    Calls Tryz.prog 108 #[.agg #[.int .i64 l.o, .int .i64 l.wr, .slice l.ro l.rn l.rc]] w fun e w' => e = .returned (.int .i64 l.o) ∧ Fr w w' := by
  obtain ⟨o, wr, ro, rn, rc⟩ := l
  simp only
  go_enter Tryz.func108, Tryz.ntmps108
  go_wp2
  go_ret
  exact ⟨rfl, Fr.alloc _ _⟩
theorem chanNumber_any (l : Ch) (w : World) :
    Calls Tryz.prog 110 #[.agg #[.int .i64 l.o, .int .i64 l.cap, .int .i64 l.sent, .int .i64 l.got, .bool l.cl]] w fun e w' => e = .returned (.int .i64 l.o) ∧ Fr w w' := by
  obtain ⟨o, cap, sent, got, cl⟩ := l
  simp only
  go_enter Tryz.func110, Tryz.ntmps110
  go_wp2
  go_ret
  exact ⟨rfl, Fr.alloc _ _⟩
theorem countNumber_any (l : Ct) (w : World) :
    Calls Tryz.prog 112 #[.agg #[.int .i64 l.o, .int .i64 l.n]] w fun e w' => e = .returned (.int .i64 l.o) ∧ Fr w w' := by
  obtain ⟨o, n⟩ := l
  simp only
  go_enter Tryz.func112, Tryz.ntmps112
  go_wp2
  go_ret
  exact ⟨rfl, Fr.alloc _ _⟩

def upFrom (most : Int) : Int → List Int → Bool
  | _, [] => true
  | last, x :: xs => decide (last < x) && decide (x ≤ most) && upFrom most x xs
theorem upFrom_yes {most last : Int} {xs : List Int} {k : Nat} (hk : k < xs.length) (h1 : last < xs[k]) (h2 : xs[k] ≤ most) : upFrom most last (xs.drop k) = upFrom most xs[k] (xs.drop (k + 1)) := by
  rw [List.drop_eq_getElem_cons hk, upFrom, decide_eq_true h1, decide_eq_true h2]
  rfl
theorem upFrom_no {most last : Int} {xs : List Int} {k : Nat} (hk : k < xs.length) (h : xs[k] ≤ last ∨ most < xs[k]) : upFrom most last (xs.drop k) = false := by
  rw [List.drop_eq_getElem_cons hk, upFrom]
  rcases h with h | h
  · rw [decide_eq_false (by omega)]; rfl
  · rw [decide_eq_false (show ¬ xs[k] ≤ most by omega), Bool.and_false, Bool.false_and]

set_option maxHeartbeats 1000000 in
theorem risesI_any (ao : Option Addr) (n c : Nat) (xs : List Int) (most : Int) (w : World) (hn : xs.length = n) (hl : xs.length ≤ 1048576) (h : Reads w ao xs) :
    Calls Tryz.prog 67 #[.slice ao n c, .func (.func 68) #[] #[], .int .i64 most] w fun e w' => e = .returned (.bool (upFrom most (-1) xs)) ∧ w' = w := by
  subst hn
  obtain ⟨R, hR⟩ : ∃ R, R = upFrom most (-1) xs := ⟨_, rfl⟩
  rw [← hR]
  have HR : Hid (R = upFrom most (-1) xs) := hR
  clear hR
  go_enter Tryz.func67, Tryz.ntmps67
  go_wp2_with fail
  go_loopw [7, 13] (fun q i wr => ∃ (k : Nat) (last : Int), k ≤ xs.length ∧ i = .int .i64 k ∧ q = .int .i64 last ∧ Hid (R = upFrom most last (xs.drop k)) ∧ wr = w) (fun _ i _ => xs.length - (intOf i).toNat)
  case atStart => exact ⟨0, -1, Nat.zero_le _, rfl, rfl, HR, rfl⟩
  case round =>
    clear HR
    obtain ⟨k, last, hk, rfl, rfl, HR, rfl⟩ := hrel
    by_cases hlt : k < xs.length
    · obtain ⟨b, off, rfl, hc⟩ := h.at_ k hlt
      have hck := hc k hlt
      rw [getD_at hlt] at hck
      have HY : Hid (last < xs[k] → xs[k] ≤ most → R = upFrom most xs[k] (xs.drop (k + 1))) := fun h1 h2 => HR.out.trans (upFrom_yes hlt h1 h2)
      have HF : Hid (xs[k] ≤ last ∨ most < xs[k] → R = false) := fun h1 => HR.out.trans (upFrom_no hlt h1)
      obtain ⟨z, hz⟩ : ∃ z, z = xs[k] := ⟨_, rfl⟩
      rw [← hz] at hck HY HF
      clear hz hc HR
      go_wp2_with fail
      refine (itself_any _ _).mono ?_
      rintro e y ⟨rfl, rfl⟩
      by_cases h1 : z ≤ last
      · have HN : Hid (R = false) := HF.out (.inl h1)
        go_wp2_with fail
        go_ret
        exact ⟨ret_bool HN.out.symm, rfl⟩
      · by_cases h2 : most < z
        · have HN : Hid (R = false) := HF.out (.inr h2)
          have h1' : last < z := by omega
          clear h1
          go_wp2_with fail
          go_ret
          exact ⟨ret_bool HN.out.symm, rfl⟩
        · have h1' : last < z := by omega
          have h2' : z ≤ most := by omega
          have HN : Hid (R = upFrom most z (xs.drop (k + 1))) := HY.out h1' h2'
          clear h1 h2
          go_wp2_with fail
          go_roundw
          case rel => exact ⟨k + 1, z, by omega, by go_num, rfl, HN, trivial⟩
          case measure => simp [intOf]; omega
    · have HN : Hid (R = true) := by
        have h1 := HR.out
        rw [List.drop_eq_nil_of_le (by omega)] at h1
        exact h1
      go_wp2_with fail
      go_ret
      exact ⟨ret_bool HN.out.symm, rfl⟩

set_option maxHeartbeats 1000000 in
theorem risesN_any (ao : Option Addr) (n c : Nat) (es : List Ct) (most : Int) (w : World) (hn : es.length = n) (hl : es.length ≤ 1048576) (h : ReadsG layN w ao es) :
    Calls Tryz.prog 138 #[.slice ao n c, .func (.func 112) #[] #[], .int .i64 most] w fun e w' => e = .returned (.bool (upFrom most (-1) (es.map Ct.o))) ∧ Fr w w' := by
  subst hn
  obtain ⟨xs, hx⟩ : ∃ xs, xs = es.map Ct.o := ⟨_, rfl⟩
  have HX : Hid (xs = es.map Ct.o) := hx
  rw [← hx]
  clear hx
  obtain ⟨R, hR⟩ : ∃ R, R = upFrom most (-1) xs := ⟨_, rfl⟩
  rw [← hR]
  have HR : Hid (R = upFrom most (-1) xs) := hR
  clear hR
  go_enter Tryz.func138, Tryz.ntmps138
  go_wp2_with fail
  go_loopw [7, 13] (fun q i wr => ∃ (k : Nat) (last : Int), k ≤ es.length ∧ i = .int .i64 k ∧ q = .int .i64 last ∧ Hid (R = upFrom most last (xs.drop k)) ∧ Fr w wr) (fun _ i _ => es.length - (intOf i).toNat)
  case atStart => exact ⟨0, -1, Nat.zero_le _, rfl, rfl, HR, Fr.refl w⟩
  case round =>
    clear HR
    obtain ⟨k, last, hk, rfl, rfl, HR, hf⟩ := hrel
    by_cases hlt : k < es.length
    · obtain ⟨b, off, rfl, d0, d1⟩ := ct_at (h.fr hf) k hlt
      have hlx : k < xs.length := by rw [HX.out]; simpa using hlt
      have hkz : xs[k] = es[k].o := by simp only [HX.out, List.getElem_map]
      have HY : Hid (last < es[k].o → es[k].o ≤ most → R = upFrom most es[k].o (xs.drop (k + 1))) := fun h1 h2 => HR.out.trans (by rw [← hkz] at h1 h2 ⊢; exact upFrom_yes hlx h1 h2)
      have HF : Hid (es[k].o ≤ last ∨ most < es[k].o → R = false) := fun h1 => HR.out.trans (by rw [← hkz] at h1; exact upFrom_no hlx h1)
      obtain ⟨e, he⟩ : ∃ e, e = es[k] := ⟨_, rfl⟩
      rw [← he] at HY HF
      simp only [← he] at d0 d1
      clear he hkz hlx HR
      obtain ⟨z, n2⟩ := e
      simp only at d0 d1 HY HF
      go_wp2_with fail
      refine (countNumber_any ⟨z, n2⟩ _).mono ?_
      rintro e y ⟨rfl, fy⟩
      have hf2 := (hf.trans (Fr.alloc wr (.cells #[.int .i64 z, .int .i64 n2] 88))).trans fy
      clear d0 d1 fy
      simp only
      by_cases h1 : z ≤ last
      · have HN : Hid (R = false) := HF.out (.inl h1)
        go_wp2_with fail
        go_ret
        exact ⟨ret_bool HN.out.symm, hf2⟩
      · by_cases h2 : most < z
        · have HN : Hid (R = false) := HF.out (.inr h2)
          have h1' : last < z := by omega
          clear h1
          go_wp2_with fail
          go_ret
          exact ⟨ret_bool HN.out.symm, hf2⟩
        · have h1' : last < z := by omega
          have h2' : z ≤ most := by omega
          have HN : Hid (R = upFrom most z (xs.drop (k + 1))) := HY.out h1' h2'
          clear h1 h2
          go_wp2_with fail
          go_roundw
          case rel => exact ⟨k + 1, z, by omega, by go_num, rfl, HN, hf2⟩
          case measure => simp [intOf]; omega
    · have HN : Hid (R = true) := by
        have h1 := HR.out
        rw [List.drop_eq_nil_of_le (by rw [HX.out]; simp; omega)] at h1
        exact h1
      go_wp2_with fail
      go_ret
      exact ⟨ret_bool HN.out.symm, hf⟩

set_option maxHeartbeats 1000000 in
theorem risesC_any (ao : Option Addr) (n c : Nat) (es : List Ch) (most : Int) (w : World) (hn : es.length = n) (hl : es.length ≤ 1048576) (h : ReadsG layC w ao es) :
    Calls Tryz.prog 137 #[.slice ao n c, .func (.func 110) #[] #[], .int .i64 most] w fun e w' => e = .returned (.bool (upFrom most (-1) (es.map Ch.o))) ∧ Fr w w' := by
  subst hn
  obtain ⟨xs, hx⟩ : ∃ xs, xs = es.map Ch.o := ⟨_, rfl⟩
  have HX : Hid (xs = es.map Ch.o) := hx
  rw [← hx]
  clear hx
  obtain ⟨R, hR⟩ : ∃ R, R = upFrom most (-1) xs := ⟨_, rfl⟩
  rw [← hR]
  have HR : Hid (R = upFrom most (-1) xs) := hR
  clear hR
  go_enter Tryz.func137, Tryz.ntmps137
  go_wp2_with fail
  go_loopw [7, 13] (fun q i wr => ∃ (k : Nat) (last : Int), k ≤ es.length ∧ i = .int .i64 k ∧ q = .int .i64 last ∧ Hid (R = upFrom most last (xs.drop k)) ∧ Fr w wr) (fun _ i _ => es.length - (intOf i).toNat)
  case atStart => exact ⟨0, -1, Nat.zero_le _, rfl, rfl, HR, Fr.refl w⟩
  case round =>
    clear HR
    obtain ⟨k, last, hk, rfl, rfl, HR, hf⟩ := hrel
    by_cases hlt : k < es.length
    · obtain ⟨b, off, rfl, d0, d1, d2, d3, d4⟩ := ch_at (h.fr hf) k hlt
      have hlx : k < xs.length := by rw [HX.out]; simpa using hlt
      have hkz : xs[k] = es[k].o := by simp only [HX.out, List.getElem_map]
      have HY : Hid (last < es[k].o → es[k].o ≤ most → R = upFrom most es[k].o (xs.drop (k + 1))) := fun h1 h2 => HR.out.trans (by rw [← hkz] at h1 h2 ⊢; exact upFrom_yes hlx h1 h2)
      have HF : Hid (es[k].o ≤ last ∨ most < es[k].o → R = false) := fun h1 => HR.out.trans (by rw [← hkz] at h1; exact upFrom_no hlx h1)
      obtain ⟨e, he⟩ : ∃ e, e = es[k] := ⟨_, rfl⟩
      rw [← he] at HY HF
      simp only [← he] at d0 d1 d2 d3 d4
      clear he hkz hlx HR
      obtain ⟨z, cap, sent, got, cl⟩ := e
      simp only at d0 d1 d2 d3 d4 HY HF
      go_wp2_with fail
      refine (chanNumber_any ⟨z, cap, sent, got, cl⟩ _).mono ?_
      rintro e y ⟨rfl, fy⟩
      have hf2 := (hf.trans (Fr.alloc wr (.cells #[.int .i64 z, .int .i64 cap, .int .i64 sent, .int .i64 got, .bool cl] 85))).trans fy
      clear d0 d1 d2 d3 d4 fy
      simp only
      by_cases h1 : z ≤ last
      · have HN : Hid (R = false) := HF.out (.inl h1)
        go_wp2_with fail
        go_ret
        exact ⟨ret_bool HN.out.symm, hf2⟩
      · by_cases h2 : most < z
        · have HN : Hid (R = false) := HF.out (.inr h2)
          have h1' : last < z := by omega
          clear h1
          go_wp2_with fail
          go_ret
          exact ⟨ret_bool HN.out.symm, hf2⟩
        · have h1' : last < z := by omega
          have h2' : z ≤ most := by omega
          have HN : Hid (R = upFrom most z (xs.drop (k + 1))) := HY.out h1' h2'
          clear h1 h2
          go_wp2_with fail
          go_roundw
          case rel => exact ⟨k + 1, z, by omega, by go_num, rfl, HN, hf2⟩
          case measure => simp [intOf]; omega
    · have HN : Hid (R = true) := by
        have h1 := HR.out
        rw [List.drop_eq_nil_of_le (by rw [HX.out]; simp; omega)] at h1
        exact h1
      go_wp2_with fail
      go_ret
      exact ⟨ret_bool HN.out.symm, hf⟩

set_option maxHeartbeats 1000000 in
theorem risesL_any (ao : Option Addr) (n c : Nat) (es : List Lv) (most : Int) (w : World) (hn : es.length = n) (hl : es.length ≤ 1048576) (h : ReadsG layL w ao es) :
    Calls Tryz.prog 136 #[.slice ao n c, .func (.func 108) #[] #[], .int .i64 most] w fun e w' => e = .returned (.bool (upFrom most (-1) (es.map Lv.o))) ∧ Fr w w' := by
  subst hn
  obtain ⟨xs, hx⟩ : ∃ xs, xs = es.map Lv.o := ⟨_, rfl⟩
  have HX : Hid (xs = es.map Lv.o) := hx
  rw [← hx]
  clear hx
  obtain ⟨R, hR⟩ : ∃ R, R = upFrom most (-1) xs := ⟨_, rfl⟩
  rw [← hR]
  have HR : Hid (R = upFrom most (-1) xs) := hR
  clear hR
  go_enter Tryz.func136, Tryz.ntmps136
  go_wp2_with fail
  go_loopw [7, 13] (fun q i wr => ∃ (k : Nat) (last : Int), k ≤ es.length ∧ i = .int .i64 k ∧ q = .int .i64 last ∧ Hid (R = upFrom most last (xs.drop k)) ∧ Fr w wr) (fun _ i _ => es.length - (intOf i).toNat)
  case atStart => exact ⟨0, -1, Nat.zero_le _, rfl, rfl, HR, Fr.refl w⟩
  case round =>
    clear HR
    obtain ⟨k, last, hk, rfl, rfl, HR, hf⟩ := hrel
    by_cases hlt : k < es.length
    · obtain ⟨b, off, rfl, d0, d1, d2⟩ := lv_at (h.fr hf) k hlt
      have hlx : k < xs.length := by rw [HX.out]; simpa using hlt
      have hkz : xs[k] = es[k].o := by simp only [HX.out, List.getElem_map]
      have HY : Hid (last < es[k].o → es[k].o ≤ most → R = upFrom most es[k].o (xs.drop (k + 1))) := fun h1 h2 => HR.out.trans (by rw [← hkz] at h1 h2 ⊢; exact upFrom_yes hlx h1 h2)
      have HF : Hid (es[k].o ≤ last ∨ most < es[k].o → R = false) := fun h1 => HR.out.trans (by rw [← hkz] at h1; exact upFrom_no hlx h1)
      obtain ⟨e, he⟩ : ∃ e, e = es[k] := ⟨_, rfl⟩
      rw [← he] at HY HF
      simp only [← he] at d0 d1 d2
      clear he hkz hlx HR
      obtain ⟨z, wt, ro, rn, rc⟩ := e
      simp only at d0 d1 d2 HY HF
      go_wp2_with fail
      refine (lockNumber_any ⟨z, wt, ro, rn, rc⟩ _).mono ?_
      rintro e y ⟨rfl, fy⟩
      have hf2 := (hf.trans (Fr.alloc wr (.cells #[.int .i64 z, .int .i64 wt, .slice ro rn rc] 82))).trans fy
      clear d0 d1 d2 fy
      simp only
      by_cases h1 : z ≤ last
      · have HN : Hid (R = false) := HF.out (.inl h1)
        go_wp2_with fail
        go_ret
        exact ⟨ret_bool HN.out.symm, hf2⟩
      · by_cases h2 : most < z
        · have HN : Hid (R = false) := HF.out (.inr h2)
          have h1' : last < z := by omega
          clear h1
          go_wp2_with fail
          go_ret
          exact ⟨ret_bool HN.out.symm, hf2⟩
        · have h1' : last < z := by omega
          have h2' : z ≤ most := by omega
          have HN : Hid (R = upFrom most z (xs.drop (k + 1))) := HY.out h1' h2'
          clear h1 h2
          go_wp2_with fail
          go_roundw
          case rel => exact ⟨k + 1, z, by omega, by go_num, rfl, HN, hf2⟩
          case measure => simp [intOf]; omega
    · have HN : Hid (R = true) := by
        have h1 := HR.out
        rw [List.drop_eq_nil_of_le (by rw [HX.out]; simp; omega)] at h1
        exact h1
      go_wp2_with fail
      go_ret
      exact ⟨ret_bool HN.out.symm, hf⟩
end Go.Proofs.YtplnijpolkflcaaGreatDoor
