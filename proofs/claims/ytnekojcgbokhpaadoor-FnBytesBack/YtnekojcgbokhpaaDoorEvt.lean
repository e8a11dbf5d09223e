/-
  The program's reader: event.
-/
import Derived.Test.YtnekojcgbokhpaaDoorRdn
import Derived.Test.YtnekojcgbokhpaaDoorRev
import Derived.Test.YtnekojcgbokhpaaDoorEnc
import Derived.Test.YtnekojcgbokhpaaDoorCode
namespace Go.Proofs.YtnekojcgbokhpaaDoor
open Go.RowKit
set_option linter.unusedVariables false

theorem gthen {a b c : World} {g : Nat} {row : Option Nat} (h : a.grownBy b (some g)) (k : b.grownBy c row) (hr : ∀ j, row = some j → a.heap.size ≤ j ∨ j = g) : a.grownBy c (some g) :=
  ⟨k.os.trans h.os, k.tape.trans h.tape, k.output.trans h.output, Nat.le_trans h.size k.size,
    fun i hi hne => (k.block i (Nat.lt_of_lt_of_le hi h.size) (fun e => by rcases hr i e.symm with q | q; omega; exact hne (by rw [q]))).trans (h.block i hi hne)⟩
theorem gnone {a r : Nat} : ∀ j, (none : Option Nat) = some j → a ≤ j ∨ j = r := fun _ h => by cases h

/-- A reader at work: at the place p of the bytes bs. -/
structure RdrS (w : World) (r : Nat) (ao : Option Addr) (n cap : Nat) (bs : List Int) (p : Int) : Prop where
  rd : Rdr w r (.slice ao n cap) p
  bs : ReadsB w ao bs
  lt : ∀ j, blk ao = some j → j < r
theorem RdrS.ne {w : World} {r : Nat} {ao : Option Addr} {n cap : Nat} {bs : List Int} {p : Int} (h : RdrS w r ao n cap bs p) : blk ao ≠ some r := fun q => by have := h.lt _ q; omega
theorem RdrS.far {w : World} {r : Nat} {ao : Option Addr} {n cap : Nat} {bs : List Int} {p : Int} (h : RdrS w r ao n cap bs p) {g : Nat} (hg : r < g) : blk ao ≠ some g := fun q => by have := h.lt _ q; omega
theorem RdrS.keep {w w' : World} {r : Nat} {ao : Option Addr} {n cap : Nat} {bs : List Int} {p : Int} {row : Option Nat} (h : RdrS w r ao n cap bs p) (k : w.grownBy w' row) (hr : row ≠ some r) (hb : row = none ∨ blk ao ≠ row) : RdrS w' r ao n cap bs p :=
  ⟨h.rd.keep k hr, h.bs.keep k hb, h.lt⟩
theorem RdrS.fr {w w' : World} {r : Nat} {ao : Option Addr} {n cap : Nat} {bs : List Int} {p : Int} (h : RdrS w r ao n cap bs p) (k : Fr w w') : RdrS w' r ao n cap bs p := h.keep k (by simp) (.inl rfl)
theorem RdrS.went {w w' : World} {r : Nat} {ao : Option Addr} {n cap : Nat} {bs : List Int} {p q : Int} (h : RdrS w r ao n cap bs p) (k : w.grownBy w' (some r)) (hr : Rdr w' r (.slice ao n cap) q) : RdrS w' r ao n cap bs q :=
  ⟨hr, h.bs.keep k (.inr h.ne), h.lt⟩

theorem number_ok {r : Nat} {ao : Option Addr} {cap : Nat} {bs : List Int} {p q : Nat} {m : Int} {y : Addr} {w : World} (h : RdrS w r ao bs.length cap bs (p : Int)) (hp : p ≤ bs.length) (hy : w.cell? ⟨3, 0, none⟩ = some (.iface 195 (.pointer (some y)))) (hyr : r ≠ 3) (hr : rdN bs p = some (m, q)) :
    Calls Tryd.prog 118 #[.pointer (some ⟨r, 0, none⟩)] w fun e w' => e = .returned (.tuple #[.int .i64 m, .nilIface]) ∧ RdrS w' r ao bs.length cap bs (q : Int) ∧ w.grownBy w' (some r) := by
  have hl := h.bs.len
  refine (number_any r ao bs.length cap bs p y w rfl ⟨by omega, by omega⟩ h.bs h.ne h.rd hy hyr).mono fun e w' ⟨hg, H⟩ => ?_
  rw [rdV_some hr] at H
  rcases H with ⟨m', q', hE, rfl, hr1⟩ | ⟨hE, -⟩
  · simp only [Prod.mk.injEq, and_true] at hE
    obtain ⟨rfl, rfl⟩ := hE
    exact ⟨rfl, h.went hg hr1, hg⟩
  · simp at hE
theorem number_no {r : Nat} {ao : Option Addr} {cap : Nat} {bs : List Int} {p : Nat} {y : Addr} {w : World} (h : RdrS w r ao bs.length cap bs (p : Int)) (hp : p ≤ bs.length) (hy : w.cell? ⟨3, 0, none⟩ = some (.iface 195 (.pointer (some y)))) (hyr : r ≠ 3) (hr : rdN bs p = none) :
    Calls Tryd.prog 118 #[.pointer (some ⟨r, 0, none⟩)] w fun e w' => ∃ b j, e = .returned (.tuple #[.int .i64 0, .iface 113 (.pointer (some ⟨b, 0, none⟩))]) ∧ Flt w' b (p : Int) (.iface 195 (.pointer (some y))) ∧ w.heap.size ≤ b ∧ RdrS w' r ao bs.length cap bs j ∧ w.grownBy w' (some r) := by
  have hl := h.bs.len
  refine (number_any r ao bs.length cap bs p y w rfl ⟨by omega, by omega⟩ h.bs h.ne h.rd hy hyr).mono fun e w' ⟨hg, H⟩ => ?_
  rw [rdV_none hr] at H
  rcases H with ⟨m', q', hE, rfl, hr1⟩ | ⟨hE, b, j, rfl, hF, hb, hr1⟩
  · simp at hE
  · exact ⟨b, j, rfl, hF, hb, h.went hg hr1, hg⟩

/-- What event answers. -/
def EvtC (bs : List Int) (p r : Nat) (ao : Option Addr) (cap : Nat) (en ee : Addr) (w : World) (x : Ending) (w' : World) : Prop :=
  w.grownBy w' (some r) ∧
  ((∃ e q, rdEv bs p = .ok (e, q) ∧ x = .returned (.tuple #[.agg #[.int .i64 e.k, .int .i64 e.g, .int .i64 e.o, .int .i64 e.w, .int .i64 e.l, .int .i64 e.s, .int .i64 e.f, .int .i64 e.t], .nilIface]) ∧ RdrS w' r ao bs.length cap bs (q : Int)) ∨
   (∃ c y b i j, rdEv bs p = .error c ∧ ((c = 2 ∧ y = en) ∨ (c = 3 ∧ y = ee)) ∧ x = .returned (.tuple #[.agg #[.int .i64 0, .int .i64 0, .int .i64 0, .int .i64 0, .int .i64 0, .int .i64 0, .int .i64 0, .int .i64 0], .iface 113 (.pointer (some ⟨b, 0, none⟩))]) ∧ Flt w' b i (.iface 195 (.pointer (some y))) ∧ w.heap.size ≤ b ∧ RdrS w' r ao bs.length cap bs j))

theorem rdSeq_step {bs : List Int} {os : List Nat} {t : Nat} (h : t < os.length) {p q : Nat} {n : Int} (hr : rdN bs p = some (n, q)) (a : Ev) : rdSeq bs (os.drop t) p a = rdSeq bs (os.drop (t + 1)) q (a.put os[t] n) := by
  rw [List.drop_eq_getElem_cons h, rdSeq, hr]
theorem rdSeq_stop {bs : List Int} {os : List Nat} {t : Nat} (h : t < os.length) {p : Nat} (hr : rdN bs p = none) (a : Ev) : rdSeq bs (os.drop t) p a = none := by
  rw [List.drop_eq_getElem_cons h, rdSeq, hr]
theorem EvB.putAt {w : World} {b : Nat} {e : Ev} (h : EvB w b e) (o : Nat) (ho : o < 8) (x : Int) : EvB (w.setCell ⟨b, o, none⟩ (.int .i64 x)) b (e.put o x) := by
  rcases (by omega : o = 0 ∨ o = 1 ∨ o = 2 ∨ o = 3 ∨ o = 4 ∨ o = 5 ∨ o = 6 ∨ o = 7) with rfl | rfl | rfl | rfl | rfl | rfl | rfl | rfl
  · exact h.setK x
  · exact h.setG x
  · exact h.setO x
  · exact h.setW x
  · exact h.setL x
  · exact h.setS x
  · exact h.setF x
  · exact h.setT x

/-- The result set to nothing. -/
def S8 (w : World) (rb : Nat) : World := (((((((w.setCell ⟨rb, 0, none⟩ (.int .i64 0)).setCell ⟨rb, 1, none⟩ (.int .i64 0)).setCell ⟨rb, 2, none⟩ (.int .i64 0)).setCell ⟨rb, 3, none⟩ (.int .i64 0)).setCell ⟨rb, 4, none⟩ (.int .i64 0)).setCell ⟨rb, 5, none⟩ (.int .i64 0)).setCell ⟨rb, 6, none⟩ (.int .i64 0)).setCell ⟨rb, 7, none⟩ (.int .i64 0)
theorem S8.ev {w : World} {rb : Nat} {e0 : Ev} (h : EvB w rb e0) : EvB (S8 w rb) rb ⟨0, 0, 0, 0, 0, 0, 0, 0⟩ := h.set8 ⟨0, 0, 0, 0, 0, 0, 0, 0⟩
theorem S8.grown (w : World) (rb : Nat) : w.grownBy (S8 w rb) (some rb) := grown_st8 w rb _ _ _ _ _ _ _ _

/-- A fault and nothing are answered, in either order. -/
theorem fault_ok {bs : List Int} {p r rb b : Nat} {ao : Option Addr} {cap : Nat} {en ee : Addr} {w w1 W : World} {e0 : Ev} {j : Int} (h : EvB w1 rb e0) (hrb : w.heap.size ≤ rb) (hrl : r < w.heap.size) (k : w.grownBy w1 (some r)) (hR : RdrS w1 r ao bs.length cap bs j) (hE : rdEv bs p = .error 3)
    (hW : (W = (S8 (w1.alloc (.cells #[.int .i64 (p : Int), .iface 195 (.pointer (some ee))] 115)) rb).drew ∧ b = w1.heap.size) ∨ (W = ((S8 w1 rb).alloc (.cells #[.int .i64 (p : Int), .iface 195 (.pointer (some ee))] 115)).drew ∧ b = w1.heap.size)) :
    EvB W rb ⟨0, 0, 0, 0, 0, 0, 0, 0⟩ ∧
    EvtC bs p r ao cap en ee w (.returned (.tuple #[.agg #[.int .i64 0, .int .i64 0, .int .i64 0, .int .i64 0, .int .i64 0, .int .i64 0, .int .i64 0, .int .i64 0], .iface 113 (.pointer (some ⟨b, 0, none⟩))])) W := by
  have hl := h.lt
  have hs := k.size
  rcases hW with ⟨rfl, rfl⟩ | ⟨rfl, rfl⟩
  · have fF := Fr.alloc w1 (.cells #[.int .i64 (p : Int), .iface 195 (.pointer (some ee))] 115)
    have gz := S8.grown (w1.alloc (.cells #[.int .i64 (p : Int), .iface 195 (.pointer (some ee))] 115)) rb
    have fD := Fr.drew (S8 (w1.alloc (.cells #[.int .i64 (p : Int), .iface 195 (.pointer (some ee))] 115)) rb)
    have hN := ((Flt.new w1 (.iface 195 (.pointer (some ee))) (p : Int)).keep gz (by simp; omega)).keep fD (by simp)
    refine ⟨(S8.ev (h.keep fF (by simp))).keep fD (by simp), gthen (gthen (gthen k fF gnone) gz (fun i hi => .inl (by simp only [Option.some.injEq] at hi; omega))) fD gnone, .inr ⟨3, ee, w1.heap.size, p, j, hE, .inr ⟨rfl, rfl⟩, rfl, hN, by omega, ?_⟩⟩
    exact ((hR.fr fF).keep gz (by simp; omega) (.inr (hR.far (by omega)))).fr fD
  · have gz := S8.grown w1 rb
    have hsz : (S8 w1 rb).heap.size = w1.heap.size := by simp [S8]
    have fF := Fr.alloc (S8 w1 rb) (.cells #[.int .i64 (p : Int), .iface 195 (.pointer (some ee))] 115)
    have fD := Fr.drew ((S8 w1 rb).alloc (.cells #[.int .i64 (p : Int), .iface 195 (.pointer (some ee))] 115))
    have hN := (Flt.new (S8 w1 rb) (.iface 195 (.pointer (some ee))) (p : Int)).keep fD (by simp)
    rw [hsz] at hN
    refine ⟨((S8.ev h).keep fF (by simp)).keep fD (by simp), gthen (gthen (gthen k gz (fun i hi => .inl (by simp only [Option.some.injEq] at hi; omega))) fF gnone) fD gnone, .inr ⟨3, ee, w1.heap.size, p, j, hE, .inr ⟨rfl, rfl⟩, rfl, hN, by omega, ?_⟩⟩
    exact ((hR.keep gz (by simp; omega) (.inr (hR.far (by omega)))).fr fF).fr fD

set_option maxRecDepth 20000 in
set_option maxHeartbeats 1000000 in
theorem event_none (r : Nat) (ao : Option Addr) (cap : Nat) (bs : List Int) (p : Nat) (en ee : Addr) (w : World) (hp : p ≤ bs.length) (hR : RdrS w r ao bs.length cap bs (p : Int))
    (hn : w.cell? ⟨3, 0, none⟩ = some (.iface 195 (.pointer (some en)))) (he : w.cell? ⟨4, 0, none⟩ = some (.iface 195 (.pointer (some ee)))) (hrn : r ≠ 3) (hre : r ≠ 4) (hrs : r ≠ 0) (hs : Shapes w) (hr : rdN bs p = none) :
    Calls Tryd.prog 71 #[.pointer (some ⟨r, 0, none⟩)] w (EvtC bs p r ao cap en ee w) := by
  have hu := hR.bs.bd
  have hrl := hR.rd.lt
  have f0 := Fr.alloc w (.cells #[.int .i64 0, .int .i64 0, .int .i64 0, .int .i64 0, .int .i64 0, .int .i64 0, .int .i64 0, .int .i64 0] 49)
  have hz := EvB.new w ⟨0, 0, 0, 0, 0, 0, 0, 0⟩
  have hR0 := hR.fr f0
  have r1 := hR0.rd.c1
  have hel : 4 < w.heap.size := World.block_lt_of_cell? w _ he
  have hnl : 3 < w.heap.size := World.block_lt_of_cell? w _ hn
  have c1 := number_no hR0 hp (f0.cell hn) hrn hr
  have HE : Hid (rdEv bs p = .error 2) := rdEv_no hr
  clear hr
  go_enter Tryd.func71, Tryd.ntmps71
  go_wp2_with fail
  refine c1.mono ?_
  rintro x w1 ⟨b, j, rfl, hF, hb, hR1, k1⟩
  have hz1 := hz.keep k1 (by simp; omega)
  have hb' : w.heap.size + 1 ≤ b := by simpa using hb
  obtain ⟨b0, b1, b2, b3, b4, b5, b6, b7⟩ := hz1.at
  have z := hz1.free
  have hz2 := hz1.set8 ⟨0, 0, 0, 0, 0, 0, 0, 0⟩
  have gz := grown_st8 w1 w.heap.size (.int .i64 0) (.int .i64 0) (.int .i64 0) (.int .i64 0) (.int .i64 0) (.int .i64 0) (.int .i64 0) (.int .i64 0)
  clear c1 hz r1 hb
  go_wp2_with fail
  obtain ⟨d0, d1, d2, d3, d4, d5, d6, d7⟩ := hz2.at
  have kk : w.grownBy _ (some r) := gthen (gthen (f0.row (some r)) k1 (fun j hj => .inr (by simpa using hj.symm))) gz (fun j hj => .inl (by simp only [Option.some.injEq] at hj; omega))
  exact bodyPost_ret (v := .tuple #[.agg #[.int .i64 0, .int .i64 0, .int .i64 0, .int .i64 0, .int .i64 0, .int .i64 0, .int .i64 0, .int .i64 0], .iface 113 (.pointer (some ⟨b, 0, none⟩))]) (by simp [results, Tryd.results71, go_sem, d0, d1, d2, d3, d4, d5, d6, d7]) rfl
    ⟨kk, .inr ⟨2, en, b, p, j, HE.out, .inl ⟨rfl, rfl⟩, rfl, hF.keep gz (by simp; omega), by omega, hR1.keep gz (by simp; omega) (.inr (hR.far hrl))⟩⟩

set_option maxRecDepth 20000 in
set_option maxHeartbeats 1000000 in
theorem event_kind (r : Nat) (ao : Option Addr) (cap : Nat) (bs : List Int) (p : Nat) (en ee : Addr) (w : World) (hp : p ≤ bs.length) (hR : RdrS w r ao bs.length cap bs (p : Int))
    (hn : w.cell? ⟨3, 0, none⟩ = some (.iface 195 (.pointer (some en)))) (he : w.cell? ⟨4, 0, none⟩ = some (.iface 195 (.pointer (some ee)))) (hrn : r ≠ 3) (hre : r ≠ 4) (hrs : r ≠ 0) (hs : Shapes w) (k : Int) (q : Nat) (hr : rdN bs p = some (k, q)) (hk : inB 1 22 k = false) :
    Calls Tryd.prog 71 #[.pointer (some ⟨r, 0, none⟩)] w (EvtC bs p r ao cap en ee w) := by
  have hu := hR.bs.bd
  have hrl := hR.rd.lt
  have f0 := Fr.alloc w (.cells #[.int .i64 0, .int .i64 0, .int .i64 0, .int .i64 0, .int .i64 0, .int .i64 0, .int .i64 0, .int .i64 0] 49)
  have hz := EvB.new w ⟨0, 0, 0, 0, 0, 0, 0, 0⟩
  have hR0 := hR.fr f0
  have r1 := hR0.rd.c1
  have hel : 4 < w.heap.size := World.block_lt_of_cell? w _ he
  have hnl : 3 < w.heap.size := World.block_lt_of_cell? w _ hn
  have c1 := number_ok hR0 hp (f0.cell hn) hrn hr
  have hq := (rdN_lt hu hr).2
  have HR : Hid (rdN bs p = some (k, q)) := hr
  have cK := fun w => kindIn_any k w
  clear hr
  rw [hk] at cK
  have HE : Hid (rdEv bs p = .error 3) := rdEv_kind HR.out hk
  clear hk HR
  go_enter Tryd.func71, Tryd.ntmps71
  go_wp2_with fail
  refine c1.mono ?_
  rintro x w1 ⟨rfl, hR1, k1⟩
  go_wp2_with fail
  refine (cK _).mono ?_
  rintro e w2 ⟨rfl, rfl⟩
  have hz1 := hz.keep k1 (by simp; omega)
  have he1 := k1.cell (f0.cell he) (by simp; omega)
  obtain ⟨b0, b1, b2, b3, b4, b5, b6, b7⟩ := hz1.at
  have z := hz1.free
  have fF := Fr.alloc w2 (.cells #[.int .i64 (p : Int), .iface 195 (.pointer (some ee))] 115)
  have hzF := hz1.keep fF (by simp)
  obtain ⟨v0, v1, v2, v3, v4, v5, v6, v7⟩ := hzF.at
  have zF := hzF.free
  have gz := grown_st8 w2 w.heap.size (.int .i64 0) (.int .i64 0) (.int .i64 0) (.int .i64 0) (.int .i64 0) (.int .i64 0) (.int .i64 0) (.int .i64 0)
  have he2 := gz.cell he1 (by simp; omega)
  clear c1 cK hz r1
  go_wp2_with fail
  go_region
  · go_wp2_with fail
    obtain ⟨hzX, hX⟩ := fault_ok (W := (S8 (w2.alloc (.cells #[.int .i64 (p : Int), .iface 195 (.pointer (some ee))] 115)) w.heap.size).drew) (ee := ee) (en := en) hz1 (Nat.le_refl _) hrl (gthen (f0.row (some r)) k1 (fun j hj => .inr (by simpa using hj.symm))) hR1 HE.out (.inl ⟨rfl, rfl⟩)
    obtain ⟨d0, d1, d2, d3, d4, d5, d6, d7⟩ := hzX.at
    simp only [S8] at d0 d1 d2 d3 d4 d5 d6 d7
    exact bodyPost_ret (v := .tuple #[.agg #[.int .i64 0, .int .i64 0, .int .i64 0, .int .i64 0, .int .i64 0, .int .i64 0, .int .i64 0, .int .i64 0], .iface 113 (.pointer (some ⟨w2.heap.size, 0, none⟩))]) (by simp [results, Tryd.results71, go_sem, d0, d1, d2, d3, d4, d5, d6, d7]) rfl hX
  · go_wp2_with fail
    obtain ⟨hzX, hX⟩ := fault_ok (W := ((S8 w2 w.heap.size).alloc (.cells #[.int .i64 (p : Int), .iface 195 (.pointer (some ee))] 115)).drew) (ee := ee) (en := en) hz1 (Nat.le_refl _) hrl (gthen (f0.row (some r)) k1 (fun j hj => .inr (by simpa using hj.symm))) hR1 HE.out (.inr ⟨rfl, rfl⟩)
    obtain ⟨d0, d1, d2, d3, d4, d5, d6, d7⟩ := hzX.at
    simp only [S8] at d0 d1 d2 d3 d4 d5 d6 d7
    exact bodyPost_ret (v := .tuple #[.agg #[.int .i64 0, .int .i64 0, .int .i64 0, .int .i64 0, .int .i64 0, .int .i64 0, .int .i64 0, .int .i64 0], .iface 113 (.pointer (some ⟨w2.heap.size, 0, none⟩))]) (by simp [results, Tryd.results71, go_sem, d0, d1, d2, d3, d4, d5, d6, d7]) rfl hX

end Go.Proofs.YtnekojcgbokhpaaDoor
