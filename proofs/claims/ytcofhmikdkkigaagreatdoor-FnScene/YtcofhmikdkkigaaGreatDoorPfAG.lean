/-
  Pack AG: ScK, ScMap.
-/
import Derived.Test.YtcofhmikdkkigaaGreatDoorPfAF
import Derived.Test.YtcofhmikdkkigaaGreatDoorPfAE
import Derived.Maps.OwnSet
namespace Go.Proofs.YtcofhmikdkkigaaGreatDoor
open Go.RowKit

def Grew (B : Nat → Prop) (w w' : World) (b : Nat) : Prop := B b ∨ (w.heap.size ≤ b ∧ b < w'.heap.size)
theorem InB.mono {B B' : Nat → Prop} {ao : Option Addr} (h : InB B ao) (hB : ∀ b, B b → B' b) : InB B' ao := fun b e => hB b (h b e)
theorem LkR.mono {B B' : Nat → Prop} {w : World} {lv : Lv} {l : Lk} (h : LkR B w lv l) (hB : ∀ b, B b → B' b) : LkR B' w lv l :=
  ⟨h.o, h.wr, h.rn, h.rd, h.bl.mono hB, h.rc, h.sz, h.io, h.iw⟩
theorem LksR.mono {B B' : Nat → Prop} {w : World} {lvs : List Lv} {ls : List Lk} (h : LksR B w lvs ls) (hB : ∀ b, B b → B' b) : LksR B' w lvs ls :=
  ⟨h.len, fun j h1 h2 => (h.at_ j h1 h2).mono hB⟩
theorem ScR.mono {B B' : Nat → Prop} {w : World} {s : Sv} {m : Scn} (h : ScR B w s m) (hB : ∀ b, B b → B' b) : ScR B' w s m := by
  obtain ⟨lvs, h1, h2, h3⟩ := h.lks
  exact { h with lks := ⟨lvs, h1, h2, h3.mono hB⟩, bl := h.bl.mono hB, bc := h.bc.mono hB, bn := h.bn.mono hB, bo := h.bo.mono hB }
theorem Grew.old {B : Nat → Prop} {w w' : World} : ∀ b, B b → Grew B w w' b := fun _ h => .inl h
theorem Grew.trans {B : Nat → Prop} {w w1 w2 : World} (h : w.heap.size ≤ w1.heap.size) (h2 : w1.heap.size ≤ w2.heap.size) : ∀ b, Grew (Grew B w w1) w1 w2 b → Grew B w w2 b := by
  rintro b ((hb | ⟨h3, h4⟩) | ⟨h3, h4⟩)
  · exact .inl hb
  · exact .inr ⟨h3, by omega⟩
  · exact .inr ⟨by omega, h4⟩
theorem Grew.wide {B : Nat → Prop} {w w0 w1 w2 : World} (h : w0.heap.size ≤ w.heap.size) (h2 : w1.heap.size ≤ w2.heap.size) : ∀ b, Grew B w w1 b → Grew B w0 w2 b := by
  rintro b (hb | ⟨h3, h4⟩)
  · exact .inl hb
  · exact .inr ⟨by omega, by omega⟩

def ScK (w : World) (b : Nat) (s : Sv) : Prop := w.heap[b]? = some (.cells #[.int .i64 s.g, .slice s.lo s.ll s.lc, .slice s.co s.cl s.cc, .slice s.no s.nl s.nc, .slice s.oo s.ol s.oc] 29 (0, 0))
theorem ScK.lt {w : World} {b : Nat} {s : Sv} (h : ScK w b s) : b < w.heap.size := (Array.getElem?_eq_some_iff.1 h).1
theorem ScK.keep {w w' : World} {b : Nat} {s : Sv} {row : Option Nat} (h : ScK w b s) (k : w.grownBy w' row) (hr : row ≠ some b) : ScK w' b s := (k.block b h.lt (fun q => hr q.symm)).trans h
theorem ScK.fr {w w' : World} {b : Nat} {s : Sv} (h : ScK w b s) (k : Fr w w') : ScK w' b s := h.keep k (by simp)
theorem ScK.new (w : World) (s : Sv) : ScK (w.alloc (.cells #[.int .i64 s.g, .slice s.lo s.ll s.lc, .slice s.co s.cl s.cc, .slice s.no s.nl s.nc, .slice s.oo s.ol s.oc] 29)) w.heap.size s := heap_alloc_new w _
theorem ScK.at {w : World} {b : Nat} {s : Sv} (h : ScK w b s) : ScB w b s := by
  have h' : w.heap[b]? = some (.cells #[.int .i64 s.g, .slice s.lo s.ll s.lc, .slice s.co s.cl s.cc, .slice s.no s.nl s.nc, .slice s.oo s.ol s.oc] 29 (0, 0)) := h
  constructor <;> simp [World.cell?, h']
theorem ScK.free {w : World} {b : Nat} {s : Sv} (h : ScK w b s) (i : Nat) : w.frozen? ⟨b, i, none⟩ = false := frozen_of_row w b i _ _ h
theorem put5 (w : World) (r : Nat) (v0 v1 v2 v3 v4 : Value) :
    w.grownBy (((((w.setCell ⟨r, 0, none⟩ v0).setCell ⟨r, 1, none⟩ v1).setCell ⟨r, 2, none⟩ v2).setCell ⟨r, 3, none⟩ v3).setCell ⟨r, 4, none⟩ v4) (some r) :=
  grown_trans (grown_trans (grown_trans (grown_trans (grown_set _ r 0 _) (grown_set _ r 1 _)) (grown_set _ r 2 _)) (grown_set _ r 3 _)) (grown_set _ r 4 _)

def LvK (w : World) (b : Nat) (l : Lv) : Prop := w.heap[b]? = some (.cells #[.int .i64 l.o, .int .i64 l.wr, .slice l.ro l.rn l.rc] 86 (0, 0))
theorem LvK.lt {w : World} {b : Nat} {l : Lv} (h : LvK w b l) : b < w.heap.size := (Array.getElem?_eq_some_iff.1 h).1
theorem LvK.keep {w w' : World} {b : Nat} {l : Lv} {row : Option Nat} (h : LvK w b l) (k : w.grownBy w' row) (hr : row ≠ some b) : LvK w' b l := (k.block b h.lt (fun q => hr q.symm)).trans h
theorem LvK.new (w : World) (l : Lv) : LvK (w.alloc (.cells #[.int .i64 l.o, .int .i64 l.wr, .slice l.ro l.rn l.rc] 86)) w.heap.size l := heap_alloc_new w _
theorem LvK.at {w : World} {b : Nat} {l : Lv} (h : LvK w b l) : w.cell? ⟨b, 0, none⟩ = some (.int .i64 l.o) ∧ w.cell? ⟨b, 1, none⟩ = some (.int .i64 l.wr) ∧ w.cell? ⟨b, 2, none⟩ = some (.slice l.ro l.rn l.rc) := by
  have h' : w.heap[b]? = some (.cells #[.int .i64 l.o, .int .i64 l.wr, .slice l.ro l.rn l.rc] 86 (0, 0)) := h
  refine ⟨?_, ?_, ?_⟩ <;> simp [World.cell?, h']
theorem LvK.free {w : World} {b : Nat} {l : Lv} (h : LvK w b l) (i : Nat) : w.frozen? ⟨b, i, none⟩ = false := frozen_of_row w b i _ _ h
theorem LvK.setW {w : World} {b : Nat} {l : Lv} (h : LvK w b l) (x : Int) : LvK (w.setCell ⟨b, 1, none⟩ (.int .i64 x)) b { l with wr := x } := by
  exact heap_setCell_same w b 1 _ _ (.int .i64 x) h
theorem LvK.setR {w : World} {b : Nat} {l : Lv} (h : LvK w b l) (ao : Option Addr) (n c : Nat) : LvK (w.setCell ⟨b, 2, none⟩ (.slice ao n c)) b { l with ro := ao, rn := n, rc := c } := by
  exact heap_setCell_same w b 2 _ _ (.slice ao n c) h
def ChK (w : World) (b : Nat) (c : Ch) : Prop := w.heap[b]? = some (.cells #[.int .i64 c.o, .int .i64 c.cap, .int .i64 c.sent, .int .i64 c.got, .bool c.cl] 89 (0, 0))
theorem ChK.lt {w : World} {b : Nat} {c : Ch} (h : ChK w b c) : b < w.heap.size := (Array.getElem?_eq_some_iff.1 h).1
theorem ChK.keep {w w' : World} {b : Nat} {c : Ch} {row : Option Nat} (h : ChK w b c) (k : w.grownBy w' row) (hr : row ≠ some b) : ChK w' b c := (k.block b h.lt (fun q => hr q.symm)).trans h
theorem ChK.new (w : World) (c : Ch) : ChK (w.alloc (.cells #[.int .i64 c.o, .int .i64 c.cap, .int .i64 c.sent, .int .i64 c.got, .bool c.cl] 89)) w.heap.size c := heap_alloc_new w _
theorem ChK.at {w : World} {b : Nat} {c : Ch} (h : ChK w b c) : w.cell? ⟨b, 0, none⟩ = some (.int .i64 c.o) ∧ w.cell? ⟨b, 1, none⟩ = some (.int .i64 c.cap) ∧ w.cell? ⟨b, 2, none⟩ = some (.int .i64 c.sent) ∧ w.cell? ⟨b, 3, none⟩ = some (.int .i64 c.got) ∧ w.cell? ⟨b, 4, none⟩ = some (.bool c.cl) := by
  have h' : w.heap[b]? = some (.cells #[.int .i64 c.o, .int .i64 c.cap, .int .i64 c.sent, .int .i64 c.got, .bool c.cl] 89 (0, 0)) := h
  refine ⟨?_, ?_, ?_, ?_, ?_⟩ <;> simp [World.cell?, h']
theorem ChK.free {w : World} {b : Nat} {c : Ch} (h : ChK w b c) (i : Nat) : w.frozen? ⟨b, i, none⟩ = false := frozen_of_row w b i _ _ h
theorem ChK.set1 {w : World} {b : Nat} {c : Ch} (h : ChK w b c) (x : Int) : ChK (w.setCell ⟨b, 1, none⟩ (.int .i64 x)) b { c with cap := x } := by
  exact heap_setCell_same w b 1 _ _ (.int .i64 x) h
theorem ChK.set2 {w : World} {b : Nat} {c : Ch} (h : ChK w b c) (x : Int) : ChK (w.setCell ⟨b, 2, none⟩ (.int .i64 x)) b { c with sent := x } := by
  exact heap_setCell_same w b 2 _ _ (.int .i64 x) h
theorem ChK.set3 {w : World} {b : Nat} {c : Ch} (h : ChK w b c) (x : Int) : ChK (w.setCell ⟨b, 3, none⟩ (.int .i64 x)) b { c with got := x } := by
  exact heap_setCell_same w b 3 _ _ (.int .i64 x) h
theorem ChK.set4 {w : World} {b : Nat} {c : Ch} (h : ChK w b c) (x : Bool) : ChK (w.setCell ⟨b, 4, none⟩ (.bool x)) b { c with cl := x } := by
  exact heap_setCell_same w b 4 _ _ (.bool x) h
theorem ScK.setG {w : World} {b : Nat} {s : Sv} (h : ScK w b s) (x : Int) : ScK (w.setCell ⟨b, 0, none⟩ (.int .i64 x)) b { s with g := x } := by
  exact heap_setCell_same w b 0 _ _ (.int .i64 x) h
theorem ScK.setO {w : World} {b : Nat} {s : Sv} (h : ScK w b s) (ao : Option Addr) (n c : Nat) : ScK (w.setCell ⟨b, 4, none⟩ (.slice ao n c)) b { s with oo := ao, ol := n, oc := c } := by
  exact heap_setCell_same w b 4 _ _ (.slice ao n c) h

end Go.Proofs.YtcofhmikdkkigaaGreatDoor
namespace Go.Proofs.YtcofhmikdkkigaaGreatDoor
open Go.RowKit

def asIs (v : Value) : Option (DataW Value × List MemPlace) := some (.held v, [])
theorem keyed64 : Maps.Keyed Tryz.prog 2 := Maps.int_keyed Tryz.underlying2
def MapF (w : World) (b n : Nat) (f : Int → Option Value) : Prop :=
  ∃ D : DataW Value, w.ownsMap Tryz.prog 2 asIs b n D ∧ ∀ i z, D.atKey (.int .i64 i) z = ((f i).map DataW.held).getD z

theorem lit64 {i : Int} (h : I64 i) : (Lit.int .i64 i).wf = true := by
  obtain ⟨h1, h2⟩ := h
  simp [Lit.wf, IntKind.min, IntKind.max, IntKind.signed, IntKind.bits]
  omega
theorem MapF.made (w : World) : MapF (w.alloc (.map #[] 0)) w.heap.size 0 (fun _ => none) :=
  ⟨.map [], World.ownsMap_made w _ _ _, fun _ _ => rfl⟩
theorem MapF.keep {w w' : World} {b n : Nat} {f : Int → Option Value} {row : Option Nat} (h : MapF w b n f) (k : w.grownBy w' row) (hr : some b ≠ row) : MapF w' b n f := by
  obtain ⟨D, h1, h2⟩ := h
  exact ⟨D, h1.kept k hr, h2⟩
theorem MapF.fr {w w' : World} {b n : Nat} {f : Int → Option Value} (h : MapF w b n f) (k : Fr w w') : MapF w' b n f := h.keep k (by simp)
theorem MapF.lt {w : World} {b n : Nat} {f : Int → Option Value} (h : MapF w b n f) : b < w.heap.size := by
  obtain ⟨D, h1, _⟩ := h
  exact h1.lt
theorem mapF_has {f : Int → Option Value} {D : DataW Value} (h : ∀ i z, D.atKey (.int .i64 i) z = ((f i).map DataW.held).getD z) (i : Int) : Maps.has D (.int .i64 i) = (f i).isSome := by
  cases hf : f i with
  | none => exact Maps.has_false_of_atKey fun z => by rw [h i z, hf]; rfl
  | some v => exact Maps.has_true_of_atKey (y := .held v) fun z => by rw [h i z, hf]; rfl
theorem MapF.look_ok {w : World} {b n : Nat} {f : Int → Option Value} (h : MapF w b n f) {t e : TypeId} (ht : Tryz.prog.underlying t = some (.map 2 e)) {z : Value} (hz : (zeroValue e).run Tryz.prog w = .ok z w) {i : Int} (hi : I64 i) :
    (Instr.lookup t (.map (some b)) (.int .i64 i) true).run Tryz.prog w = .ok (.tuple #[(f i).getD z, .bool (f i).isSome]) w := by
  obtain ⟨D, h1, h2⟩ := h
  obtain ⟨v, ps, hrun, hv⟩ := h1.look_ok keyed64 ht hz (zd := .held z) (zp := []) rfl (Maps.keyOf_int_mk Tryz.underlying2 (lit64 hi))
  rw [mapF_has h2] at hrun
  simp only [asIs, Option.some.injEq, Prod.mk.injEq] at hv
  have hv := hv.1
  rw [h2] at hv
  have : v = (f i).getD z := by
    cases hf : f i with
    | none => rw [hf] at hv; simpa using hv
    | some u => rw [hf] at hv; simpa using hv
  rw [hrun, this]
theorem MapF.look {w : World} {b n : Nat} {f : Int → Option Value} (h : MapF w b n f) {t e : TypeId} (ht : Tryz.prog.underlying t = some (.map 2 e)) {z : Value} (hz : (zeroValue e).run Tryz.prog w = .ok z w) {i : Int} (hi : I64 i) :
    (Instr.lookup t (.map (some b)) (.int .i64 i) false).run Tryz.prog w = .ok ((f i).getD z) w := by
  obtain ⟨D, h1, h2⟩ := h
  obtain ⟨v, ps, hrun, hv⟩ := h1.lookup keyed64 ht hz (zd := .held z) (zp := []) rfl (Maps.keyOf_int_mk Tryz.underlying2 (lit64 hi))
  simp only [asIs, Option.some.injEq, Prod.mk.injEq] at hv
  have hv := hv.1
  rw [h2] at hv
  have : v = (f i).getD z := by
    cases hf : f i with
    | none => rw [hf] at hv; simpa using hv
    | some u => rw [hf] at hv; simpa using hv
  rw [hrun, this]
def putM (f : Int → Option Value) (i : Int) (v : Value) : Int → Option Value := fun j => if j = i then some v else f j
theorem MapF.put {w : World} {b n : Nat} {f : Int → Option Value} (h : MapF w b n f) {t e : TypeId} (ht : Tryz.prog.underlying t = some (.map 2 e)) (hn : n < maxLen) {i : Int} (hi : I64 i) (v : Value) :
    ∃ w', (Instr.mapUpdate t (.map (some b)) (.int .i64 i) v).run Tryz.prog w = .ok () w' ∧ MapF w' b (n + 1) (putM f i v) ∧ w.grownBy w' (some b) := by
  obtain ⟨D, h1, h2⟩ := h
  obtain ⟨w', hrun, h3, h4⟩ := h1.update keyed64 ht hn (Maps.keyOf_int_mk Tryz.underlying2 (lit64 hi)) (val := v) (d := .held v) (ps := []) rfl
  refine ⟨w', hrun, ⟨_, h3, fun j z => ?_⟩, h4⟩
  unfold putM
  by_cases e : j = i
  · subst e
    rw [if_pos rfl, Maps.atKey_put_same h1.isMap (keyed64.key (Maps.keyOf_int_mk Tryz.underlying2 (lit64 hi)))]
    rfl
  · rw [if_neg e, Maps.atKey_put_other (by simpa using e), h2]
theorem wp_put {w : World} {ops : Array Oper} {rest : List Oper} {o : Oper} {a : Act} {Q : Exit → Act → World → Prop} (hg : o.guard = none) (m x u : Operand) (t : TypeId) (hop : o.op = Op.mapUpdate t m x u)
    {e : TypeId} (ht : Tryz.prog.underlying t = some (.map 2 e)) (b n : Nat) (f : Int → Option Value) (i : Int) (v : Value) (hm : a.eval m = .map (some b)) (hx : a.eval x = .int .i64 i) (hu : a.eval u = v) (h : MapF w b n f) (hn : n < maxLen) (hi : I64 i)
    (hK : ∀ w', MapF w' b (n + 1) (putM f i v) → w.grownBy w' (some b) → wpList Tryz.prog ops Q rest (a.put o.dst undef) w') : wpList Tryz.prog ops Q (o :: rest) a w := by
  refine wpList_plain hg fun K' hK' => ?_
  obtain ⟨w', hrun, r1, r2⟩ := h.put ht hn hi v
  unfold Oper.wp
  simp [execOp, hop, hm, hx, hu, hrun, Result.andThen]
  exact hK' _ _ (hK w' r1 r2)
end Go.Proofs.YtcofhmikdkkigaaGreatDoor
