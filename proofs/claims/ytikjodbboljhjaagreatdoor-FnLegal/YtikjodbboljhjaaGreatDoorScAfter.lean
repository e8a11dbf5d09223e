/-
  The program's SceneAfter; legal parts of legal parts.
-/
import Derived.Test.YtikjodbboljhjaaGreatDoorScLen
import Derived.Test.YtikjodbboljhjaaGreatDoorScScene2
namespace Go.Proofs.YtikjodbboljhjaaGreatDoor
open Go.RowKit

theorem leg_ok : ∀ (es : List Ev) (m : Scn), scB m = true → scB (legS m es).1 = true
  | [], m, h => h
  | e :: es, m, h => by
    by_cases q : codeIn m e = 0
    · rw [leg_go q]; exact leg_ok es _ (do_ok q)
    · rw [leg_no q]; exact h
theorem leg_len : ∀ (es : List Ev) (m : Scn), (legS m es).2.1 ≤ es.length
  | [], m => by simp [legS]
  | e :: es, m => by
    by_cases q : codeIn m e = 0
    · rw [leg_go q]
      have := leg_len es (doS m e)
      simp only [List.length_cons]
      omega
    · rw [leg_no q]; simp
/-- The code is 0 just where all is legal. -/
theorem leg_code : ∀ (es : List Ev) (m : Scn), (legS m es).2.2 = 0 ↔ (legS m es).2.1 = es.length
  | [], m => by simp [legS]
  | e :: es, m => by
    by_cases q : codeIn m e = 0
    · rw [leg_go q]
      have := leg_code es (doS m e)
      simp only [List.length_cons]
      omega
    · rw [leg_no q]
      simp [q]
/-- A first part of the legal part is legal, whole; the next event can be done. -/
theorem leg_part : ∀ (es : List Ev) (m : Scn) (k : Nat), k ≤ (legS m es).2.1 → (legS m (es.take k)).2.1 = k ∧ (legS m (es.take k)).2.2 = 0 ∧ ∀ (h : k < es.length), k < (legS m es).2.1 → codeIn (legS m (es.take k)).1 es[k] = 0
  | es, m, 0, _ => by
    simp only [List.take_zero]
    refine ⟨rfl, rfl, fun h h2 => ?_⟩
    cases es with
    | nil => simp at h
    | cons e es =>
      by_cases q : codeIn m e = 0
      · exact q
      · rw [leg_no q] at h2; simp at h2
  | [], m, k + 1, h => by simp [legS] at h
  | e :: es, m, k + 1, h => by
    by_cases q : codeIn m e = 0
    · rw [leg_go q] at h ⊢
      simp only at h
      obtain ⟨h1, h2, h3⟩ := leg_part es (doS m e) k (by omega)
      rw [List.take_succ_cons, leg_go q]
      refine ⟨by simp only; omega, h2, fun hk hk2 => ?_⟩
      simp only [List.getElem_cons_succ]
      exact h3 (by simpa using hk) (by simp only at hk2; omega)
    · rw [leg_no q] at h; simp at h

/-- The scene behind the legal part, and whether it is all of it. -/
def aftS (es : List Ev) : Scn := if 300 < es.length then ⟨0, [], [], [], []⟩ else (legS scn0 es).1
def aftB (es : List Ev) : Bool := if 300 < es.length then false else decide ((legS scn0 es).2.2 = 0)
theorem scR_zero (B : Nat → Prop) (w : World) : ScR B w ⟨0, none, 0, 0, none, 0, 0, none, 0, 0, none, 0, 0⟩ ⟨0, [], [], [], []⟩ where
  g := rfl
  ig := ⟨by decide, by decide⟩
  lks := ⟨[], ReadsG.nil _ _ _, rfl, LksR.nil _ _⟩
  chs := ReadsG.nil _ _ _
  cl := rfl
  cts := ReadsG.nil _ _ _
  nl := rfl
  ons := Reads.nil _ _
  ol := rfl
  bl := inB_none _
  bc := inB_none _
  bn := inB_none _
  bo := inB_none _
  zo _ := rfl
  sl := by simp
  sc := by simp
  sn := by simp
  so := by simp
  ic c hc := by simp at hc
  inn c hc := by simp at hc

set_option maxRecDepth 20000 in
set_option maxHeartbeats 2000000 in
theorem implAfter_any (ao : Option Addr) (n c : Nat) (es : List Ev) (w : World) (hn : es.length = n) (h : ReadsE w ao es) (hs : Shapes w) (hab : ∀ k, blk ao = some k → k < w.heap.size) :
    Calls Tryz.prog 18 #[.slice ao n c] w fun x w' => ∃ s : Sv, x = .returned (.tuple #[.agg #[.int .i64 s.g, .slice s.lo s.ll s.lc, .slice s.co s.cl s.cc, .slice s.no s.nl s.nc, .slice s.oo s.ol s.oc], .bool (aftB es)]) ∧ ScR (fun x => w.heap.size ≤ x ∧ x < w'.heap.size) w' s (aftS es) ∧ Fr w w' := by
  have f0 := Fr.alloc w (.cells #[.int .i64 0, .slice none 0 0, .slice none 0 0, .slice none 0 0, .slice none 0 0] 29)
  have k0 := ScK.new w ⟨0, none, 0, 0, none, 0, 0, none, 0, 0, none, 0, 0⟩
  simp only at k0
  have cT := fun u => isTrace_any ao n c u
  by_cases hb : es.length ≤ 300
  · have cP := legalPartOf_any ao n c es _ hn (h.fr f0) hb (hs.fr f0) (fun k hk => by have := hab k hk; have := f0.size; omega)
    have e1 : aftS es = (legS scn0 es).1 := if_neg (by omega)
    have e3 : aftB es = decide ((legS scn0 es).2.2 = 0) := if_neg (by omega)
    have e2 : decide ((n : Int) ≤ 300) = true := by simp; omega
    have HO : Hid (scB (legS scn0 es).1 = true) := leg_ok es scn0 (by decide)
    rw [e1, e3]
    simp only [e2] at cT
    clear e1 e2 e3 hb h hs hab hn
    obtain ⟨z, hz⟩ : ∃ z : Int, z = (legS scn0 es).2.1 := ⟨_, rfl⟩
    obtain ⟨q, hq⟩ : ∃ z : Int, z = (legS scn0 es).2.2 := ⟨_, rfl⟩
    obtain ⟨M, hM⟩ : ∃ z, z = (legS scn0 es).1 := ⟨_, rfl⟩
    simp only [← hz, ← hq, ← hM] at cP HO
    rw [← hq, ← hM]
    clear hz hq hM
    go_enter Tryz.func18, Tryz.ntmps18
    go_wp2_with fail
    refine (cT _).mono ?_
    rintro e u0 ⟨rfl, rfl⟩
    clear cT
    go_wp2_with fail
    refine (cP).mono ?_
    rintro e u1 ⟨lo, b, b1, b2, b3, b4, rfl, Bd, hb1, f1⟩
    have fA := Fr.alloc u1 (.cells #[.int .i64 z, .int .i64 q, .pointer (some ⟨b, 0, none⟩)] 96)
    have hP : PartAt (u1.alloc (.cells #[.int .i64 z, .int .i64 q, .pointer (some ⟨b, 0, none⟩)] 96)) u1.heap.size z q b := heap_alloc_new u1 _
    have hrl := k0.lt
    have hs1 := f1.size
    clear cP
    go_wp2_with fail
    obtain ⟨V, hV⟩ : ∃ V, V = u1.alloc (.cells #[.int .i64 z, .int .i64 q, .pointer (some ⟨b, 0, none⟩)] 96) := ⟨_, rfl⟩
    rw [← hV] at fA hP ⊢
    have hne : w.heap.size ≠ u1.heap.size := by omega
    obtain ⟨pb, hpb⟩ : ∃ pb, pb = u1.heap.size := ⟨_, rfl⟩
    rw [← hpb] at hP hne ⊢
    have hpl : w.heap.size < pb := by omega
    obtain ⟨rb, hrb⟩ : ∃ rb, rb = w.heap.size := ⟨_, rfl⟩
    rw [← hrb] at k0 hne hpl ⊢
    have HRB : Hid (rb = w.heap.size) := hrb
    have F1 := f0.trans (f1.trans fA)
    have G1 := f1.trans fA
    have k1 := k0.fr G1
    clear hV hpb hrb k0 hrl hs1
    have cS := fun u (f : Fr V u) => scene_any u ((Bd.fr fA).fr f) HO.out (by omega)
    have HQ : Hid (∀ u, Fr V u → u.cell? ⟨pb, 0, none⟩ = some (.int .i64 z) ∧ u.cell? ⟨pb, 1, none⟩ = some (.int .i64 q) ∧ u.cell? ⟨pb, 2, none⟩ = some (.pointer (some ⟨b, 0, none⟩)) ∧ ScK u rb ⟨0, none, 0, 0, none, 0, 0, none, 0, 0, none, 0, 0⟩) := fun u f => ⟨f.cell (cell_of_row V pb 0 _ _ _ hP), f.cell (cell_of_row V pb 1 _ _ _ hP), f.cell (cell_of_row V pb 2 _ _ _ hP), k1.fr f⟩
    obtain ⟨c0, c1, c2, -⟩ := HQ.out V (Fr.refl V)
    have hne2 : ¬ (rb = pb) := hne
    clear Bd hP k1 fA f1 hne
    go_region_held3 (fun u => u.cell? ⟨pb, 0, none⟩ = some (.int .i64 z) ∧ u.cell? ⟨pb, 1, none⟩ = some (.int .i64 q) ∧ u.cell? ⟨pb, 2, none⟩ = some (.pointer (some ⟨b, 0, none⟩))) (go_keep)
      (first | (go_at_call 41; refine (cS _ (Fr.drew V)).mono ?_; rintro x u3 ⟨⟨sg, lo1, ll1, lc1, co1, cl1, cc1, no1, nl1, nc1, oo1, ol1, oc1⟩, rfl, S3, f3⟩; have q3 := (Fr.drew V).trans f3; obtain ⟨p0, p1, p2, k3⟩ := HQ.out _ q3; obtain ⟨j0, j1, j2, j3, j4⟩ := k3.at; simp only at j0 j1 j2 j3 j4; have jf := fun i => k3.free i))
    clear c0 c1 c2 p0 p1 p2 k3
    have hqb : (q == 0) = decide (q = 0) := by by_cases hq0 : q = 0 <;> simp [hq0]
    have S3 : Hid _ := S3
    go_wp2_with fail
    have k5 := put5 u3 rb (.int .i64 sg) (.slice lo1 ll1 lc1) (.slice co1 cl1 cc1) (.slice no1 nl1 nc1) (.slice oo1 ol1 oc1)
    have z5 := k5.size
    have zv : rb < V.heap.size := by have := F1.size; have := f0.size; have := HRB.out; have := G1.size; simp at *; omega
    have zd : V.drew.heap.size = V.heap.size := rfl
    refine bodyPost_ret (v := .tuple #[.agg #[.int .i64 sg, .slice lo1 ll1 lc1, .slice co1 cl1 cc1, .slice no1 nl1 nc1, .slice oo1 ol1 oc1], .bool (decide (q = 0))]) (by simp [results, Tryz.results18, go_sem, j0, j1, j2, j3, j4, hqb]) rfl ⟨⟨sg, lo1, ll1, lc1, co1, cl1, cc1, no1, nl1, nc1, oo1, ol1, oc1⟩, rfl, ?_, (F1.trans q3).then k5 (fun j hj => by simp only [Option.some.injEq] at hj; have := HRB.out; omega)⟩
    exact (S3.out.keep k5 (fun x hx => by cases hx; exact fun hq => by omega)).mono (fun x hx => ⟨by have := HRB.out; omega, by omega⟩)
  · have e1 : aftS es = ⟨0, [], [], [], []⟩ := if_pos (by omega)
    have e3 : aftB es = false := if_pos (by omega)
    have e2 : decide ((n : Int) ≤ 300) = false := by simp; omega
    rw [e1, e3]
    simp only [e2] at cT
    clear e1 e2 e3 hb h hs hab hn
    obtain ⟨j0, j1, j2, j3, j4⟩ := k0.at
    simp only at j0 j1 j2 j3 j4
    have jf := fun i => k0.free i
    go_enter Tryz.func18, Tryz.ntmps18
    go_wp2_with fail
    refine (cT _).mono ?_
    rintro e u0 ⟨rfl, rfl⟩
    go_wp2_with fail
    refine bodyPost_ret (v := .tuple #[.agg #[.int .i64 0, .slice none 0 0, .slice none 0 0, .slice none 0 0, .slice none 0 0], .bool false]) (by simp [results, Tryz.results18, go_sem]) rfl ⟨⟨0, none, 0, 0, none, 0, 0, none, 0, 0, none, 0, 0⟩, rfl, scR_zero _ _, f0⟩
end Go.Proofs.YtikjodbboljhjaaGreatDoor
