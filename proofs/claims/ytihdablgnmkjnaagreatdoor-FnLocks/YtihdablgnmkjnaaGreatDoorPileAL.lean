/-
  The program's locksOk and SceneOk; both SceneOks answer the same.
-/
import Derived.Test.YtihdablgnmkjnaaGreatDoorPileAK
import Derived.Test.YtihdablgnmkjnaaGreatDoorPileAE
import Derived.Test.YtihdablgnmkjnaaGreatDoorPileAF
import Derived.Test.YtihdablgnmkjnaaGreatDoorPileAB
namespace Go.Proofs.YtihdablgnmkjnaaGreatDoor
open Go.RowKit

theorem lvs_o {B : Nat → Prop} {w : World} {lvs : List Lv} {ls : List Lk} (h : LksR B w lvs ls) : lvs.map Lv.o = ls.map Lk.o := by
  apply List.ext_getElem
  · simpa using h.len
  · intro j h1 h2
    simp only [List.length_map] at h1 h2
    simp only [List.getElem_map]
    exact (h.at_ j h1 h2).o

set_option maxHeartbeats 2000000 in
theorem locksOk_any {B : Nat → Prop} (ao : Option Addr) (n c : Nat) (g : Int) (lvs : List Lv) (ls : List Lk) (w : World) (hn : lvs.length = n) (hl : lvs.length ≤ 1048576) (g0 : 1 ≤ g) (g1 : g ≤ 16) (h : ReadsG layL w ao lvs) (hL : LksR B w lvs ls) :
    Calls Tryz.prog 55 #[.slice ao n c, .int .i64 g] w fun e w' => e = .returned (.bool (ls.all (lk2 g) && upFrom 15 (-1) (ls.map Lk.o))) ∧ Fr w w' := by
  subst hn
  have cR := fun u (f : Fr w u) => risesL_any ao lvs.length c lvs 15 u rfl hl (h.fr f)
  rw [lvs_o hL] at cR
  have HL : Hid (lvs.length = ls.length) := hL.len
  obtain ⟨U, hU⟩ : ∃ U, U = upFrom 15 (-1) (ls.map Lk.o) := ⟨_, rfl⟩
  simp only [← hU] at cR ⊢
  clear hU
  obtain ⟨R, hR⟩ : ∃ R, R = (ls.all (lk2 g) && U) := ⟨_, rfl⟩
  rw [← hR]
  have HR : Hid (R = (ls.all (lk2 g) && U)) := hR
  clear hR
  have hgw : IntKind.i64.wrap (g - 1) = g - 1 := by rw [IntKind.wrap_i64]; omega
  go_enter Tryz.func55, Tryz.ntmps55
  go_wp2_with fail
  go_loopw [11] (fun i wr => ∃ k : Nat, k ≤ lvs.length ∧ i = .int .i64 k ∧ Hid (∀ j (hj : j < ls.length), j < k → lk2 g ls[j] = true) ∧ Fr w wr) (fun i _ => lvs.length - (intOf i).toNat)
  case atStart => exact ⟨0, Nat.zero_le _, rfl, fun j hj hk => by omega, Fr.refl w⟩
  case round =>
    obtain ⟨k, hk, rfl, HA, hf⟩ := hrel
    by_cases hlt : k < lvs.length
    · have hlt2 : k < ls.length := by have := HL.out; omega
      obtain ⟨b, off, rfl, d0, d1, d2⟩ := lv_at (h.fr hf) k hlt
      have HB : Hid (lk2 g ls[k] = false → R = false) := fun q => by rw [HR.out, all_bad hlt2 q]; rfl
      have HG : Hid (lk2 g ls[k] = true → ∀ j (hj : j < ls.length), j < k + 1 → lk2 g ls[j] = true) := fun q => upto_good HA.out hlt2 q
      have hlk := (hL.at_ k hlt hlt2).fr hf
      obtain ⟨e, he⟩ : ∃ e, e = lvs[k] := ⟨_, rfl⟩
      obtain ⟨l, hll⟩ : ∃ l, l = ls[k] := ⟨_, rfl⟩
      rw [← hll] at HB HG hlk
      rw [← he] at hlk
      simp only [← he] at d0 d1 d2
      clear he hll hlt2
      have HW : Hid (e.wr = l.wr) := hlk.wr
      have HN : Hid (e.rn = l.rd.length) := hlk.rn
      have hsz : e.rn ≤ 1048576 := by have := hlk.sz; have := HN.out; omega
      have cI := fun u (f : Fr wr u) => risesI_any e.ro e.rn e.rc l.rd (g - 1) u HN.out.symm hlk.sz (hlk.rd.fr f)
      obtain ⟨Q, hQ⟩ : ∃ Q, Q = upFrom (g - 1) (-1) l.rd := ⟨_, rfl⟩
      unfold lk2 at HB HG
      rw [← hQ] at HB HG
      simp only [← hQ] at cI
      rw [← HW.out, ← HN.out] at HB HG
      clear hQ hlk
      obtain ⟨eo, ew, er, en, ec⟩ := e
      simp only at d0 d1 d2 HB HG cI hsz
      have f2 := Fr.alloc wr (.cells #[.int .i64 eo, .int .i64 ew, .slice er en ec] 47)
      by_cases h0 : en = 0
      · subst h0
        go_wp2_with fail
        refine (within_any _ _ _ _).mono ?_
        rintro e y ⟨rfl, rfl⟩
        cases h1 : inB 0 (g - 1) ew
        · have HX : Hid (R = false) := HB.out (by rw [h1]; rfl)
          clear d0 d1 d2
          go_wp2_with fail
          go_ret
          exact ⟨ret_bool HX.out.symm, hf.trans f2⟩
        · have HX : Hid (∀ j (hj : j < ls.length), j < k + 1 → lk2 g ls[j] = true) := HG.out (by rw [h1]; rfl)
          clear d0 d1 d2
          go_wp2_with fail
          go_roundw
          case rel => exact ⟨k + 1, by omega, by go_num, HX, hf.trans f2⟩
          case measure => simp [intOf]; omega
      · have e0 : ((en : Int) == 0) = false := beq_eq_false_iff_ne.2 (by omega)
        have h2 : (0 : Int) < (en : Int) := by omega
        have h3 : decide (en = 0) = false := decide_eq_false h0
        have h4 : decide (0 < en) = true := decide_eq_true (by omega)
        cases h5 : (ew == -1)
        · have HX : Hid (R = false) := HB.out (by rw [h3, h4, h5]; rfl)
          clear h3 h4 h0
          go_wp2_with fail
          go_ret
          exact ⟨ret_bool HX.out.symm, hf.trans f2⟩
        · cases Q
          · have HX : Hid (R = false) := HB.out (by rw [h3, h4, h5]; rfl)
            clear h3 h4 h0
            go_wp2_with fail
            refine (cI _ f2).mono ?_
            rintro e y ⟨rfl, rfl⟩
            go_wp2_with fail
            go_ret
            exact ⟨ret_bool HX.out.symm, hf.trans f2⟩
          · have HX : Hid (∀ j (hj : j < ls.length), j < k + 1 → lk2 g ls[j] = true) := HG.out (by rw [h3, h4, h5]; rfl)
            clear h3 h4 h0
            go_wp2_with fail
            refine (cI _ f2).mono ?_
            rintro e y ⟨rfl, rfl⟩
            go_wp2_with fail
            go_roundw
            case rel => exact ⟨k + 1, by omega, by go_num, HX, hf.trans f2⟩
            case measure => simp [intOf]; omega
    · have HX : Hid (U = R) := by
        show U = R
        rw [HR.out, all_take (p := lk2 g) (fun j hj => HA.out j hj (by have := HL.out; omega))]; rfl
      go_wp2_with fail
      refine (cR _ hf).mono ?_
      rintro e y ⟨rfl, fy⟩
      go_wp2_with fail
      go_ret
      exact ⟨ret_bool HX.out, hf.trans fy⟩

/-- What the program asks of a scene. -/
def scB2 (m : Scn) : Bool := inB 1 16 m.g && ((m.ls.all (lk2 m.g) && upFrom 15 (-1) (m.ls.map Lk.o)) && ((m.cs.all ch2 && upFrom 15 (-1) (m.cs.map Ch.o)) && ((m.gs.all (fun c => inB 1 1000000 c.n) && upFrom 15 (-1) (m.gs.map Ct.o)) && upFrom 15 (-1) m.os)))

theorem upFrom_iff (most : Int) (xs : List Int) : ∀ last, upFrom most last xs = true ↔ (∀ x ∈ xs, last < x ∧ x ≤ most) ∧ xs.Pairwise (· < ·) := by
  induction xs with
  | nil => intro last; simp [upFrom]
  | cons x xs ih =>
    intro last
    rw [upFrom, Bool.and_eq_true, Bool.and_eq_true, decide_eq_true_eq, decide_eq_true_eq, ih x, List.pairwise_cons]
    constructor
    · rintro ⟨⟨h1, h2⟩, h3, h4⟩
      refine ⟨fun y hy => ?_, fun y hy => (h3 y hy).1, h4⟩
      rcases List.mem_cons.1 hy with rfl | hy
      · exact ⟨h1, h2⟩
      · have := h3 y hy; exact ⟨by omega, this.2⟩
    · rintro ⟨h1, h2, h3⟩
      have hx := h1 x (List.mem_cons_self ..)
      exact ⟨hx, fun y hy => ⟨h2 y hy, (h1 y (List.mem_cons_of_mem _ hy)).2⟩, h3⟩
theorem adj_iff {α : Type} (o : α → Int) (xs : List α) : (∀ j (hj : j + 1 < xs.length), o xs[j] < o xs[j + 1]) ↔ (xs.map o).Pairwise (· < ·) := by
  rw [List.pairwise_iff_getElem]
  constructor
  · intro h i j hi hj hij
    simp only [List.length_map] at hi hj
    simp only [List.getElem_map]
    induction j with
    | zero => omega
    | succ j ih =>
      have h1 := h j hj
      by_cases e : i = j
      · subst e; exact h1
      · have := ih (by omega) (by omega); omega
  · intro h j hj
    have := h j (j + 1) (by simp; omega) (by simpa using hj) (by omega)
    simpa using this
theorem rowB_iff {α : Type} (p : α → Bool) (o : α → Int) (xs : List α) : rowB p o xs = true ↔ (∀ x ∈ xs, p x = true) ∧ (xs.map o).Pairwise (· < ·) := by
  rw [← adj_iff]
  constructor
  · intro h
    refine ⟨fun x hx => ?_, fun j hj => ?_⟩
    · obtain ⟨j, hj, rfl⟩ := List.mem_iff_getElem.1 hx
      rw [rowB, List.all_eq_true] at h
      have := h j (List.mem_range.2 hj)
      cases hp : p xs[j] with
      | true => rfl
      | false => rw [rowAt_bad hj hp] at this; cases this
    · rw [rowB, List.all_eq_true] at h
      have h2 := h (j + 1) (List.mem_range.2 hj)
      by_cases hle : o xs[j + 1] ≤ o xs[j]
      · rw [rowAt_down hj hle] at h2; cases h2
      · omega
  · rintro ⟨h1, h2⟩
    refine rowB_yes fun j hj => ?_
    cases j with
    | zero => exact rowAt_zero hj (h1 _ (List.getElem_mem hj))
    | succ j => exact rowAt_up hj (h1 _ (List.getElem_mem hj)) (h2 j hj)
theorem rdB_iff (g : Int) (xs : List Int) : rdB g xs = true ↔ (∀ x ∈ xs, 0 ≤ x ∧ x ≤ g - 1) ∧ xs.Pairwise (· < ·) := by
  have hm : xs.map (fun x => x) = xs := by simp
  have ha := adj_iff (fun x : Int => x) xs
  rw [hm] at ha
  rw [← ha]
  constructor
  · intro h
    rw [rdB, List.all_eq_true] at h
    have h1 : ∀ j (hj : j < xs.length), (0 ≤ xs[j] ∧ xs[j] ≤ g - 1) ∧ (0 < j → xs.getD (j - 1) 0 < xs[j]) := by
      intro j hj
      have h2 := h j (List.mem_range.2 hj)
      unfold rdAt at h2
      simp only [Bool.and_eq_true, Bool.or_eq_true, decide_eq_true_eq, getD_at hj] at h2
      refine ⟨inB_true h2.1, fun h0 => ?_⟩
      rcases h2.2 with h4 | h4
      · omega
      · exact h4
    refine ⟨fun x hx => ?_, fun j hj => ?_⟩
    · obtain ⟨j, hj, rfl⟩ := List.mem_iff_getElem.1 hx
      exact (h1 j hj).1
    · have := (h1 (j + 1) hj).2 (by omega)
      rwa [Nat.add_sub_cancel, getD_at (by omega)] at this
  · rintro ⟨h1, h2⟩
    refine rdB_yes fun j hj => ?_
    have h3 := h1 _ (List.getElem_mem hj)
    unfold rdAt
    rw [getD_at hj, inB_mk h3.1 h3.2]
    cases j with
    | zero => simp
    | succ j =>
      have := h2 j hj
      rw [Nat.add_sub_cancel, getD_at (by omega), decide_eq_true this]
      simp
theorem lk_iff {g : Int} (l : Lk) : lkB g l = true ↔ lk2 g l = true ∧ 0 ≤ l.o ∧ l.o ≤ 15 := by
  unfold lkB lk2
  simp only [Bool.and_eq_true, Bool.or_eq_true, decide_eq_true_eq, Bool.not_eq_true', beq_eq_false_iff_ne, beq_iff_eq, rdB_iff, upFrom_iff, inB, ne_eq, decide_eq_decide]
  constructor
  · rintro ⟨⟨h1, h2⟩, ⟨h3, h4⟩, ⟨h5, h6⟩, h7⟩
    refine ⟨?_, h3, h4⟩
    by_cases h8 : l.rd.length = 0
    · exact .inl ⟨h8, by omega, h6⟩
    · exact .inr ⟨⟨by omega, by omega⟩, fun x hx => ⟨by have := h1 x hx; omega, (h1 x hx).2⟩, h2⟩
  · rintro ⟨h1 | h1, h3, h4⟩
    · obtain ⟨h5, h6, h7⟩ := h1
      have hn : l.rd = [] := List.eq_nil_of_length_eq_zero h5
      refine ⟨⟨?_, ?_⟩, ⟨h3, h4⟩, ⟨by omega, h7⟩, by omega⟩
      · rw [hn]; simp
      · rw [hn]; exact List.Pairwise.nil
    · obtain ⟨⟨h5, h6⟩, h7, h8⟩ := h1
      obtain ⟨x, hx⟩ := List.exists_mem_of_length_pos h5
      have := h7 x hx
      exact ⟨⟨fun x hx => ⟨by have := h7 x hx; omega, (h7 x hx).2⟩, h8⟩, ⟨h3, h4⟩, ⟨by omega, by omega⟩, by omega⟩
theorem ch_iff (c : Ch) : chB c = true ↔ ch2 c = true ∧ 0 ≤ c.o ∧ c.o ≤ 15 := by
  unfold chB ch2
  simp only [Bool.and_eq_true, decide_eq_true_eq, inB]
  constructor
  · rintro ⟨h1, h2, h3, h4, h5⟩
    exact ⟨⟨⟨⟨h2, h3⟩, h4⟩, by omega⟩, h1⟩
  · rintro ⟨⟨⟨⟨h2, h3⟩, h4⟩, h5⟩, h1⟩
    exact ⟨h1, h2, h3, h4, by omega⟩
theorem ct_iff (c : Ct) : ctB c = true ↔ inB 1 1000000 c.n = true ∧ 0 ≤ c.o ∧ c.o ≤ 15 := by
  unfold ctB
  simp only [Bool.and_eq_true, decide_eq_true_eq, inB]
  constructor
  · rintro ⟨h1, h2⟩; exact ⟨h2, h1⟩
  · rintro ⟨h1, h2⟩; exact ⟨h2, h1⟩
theorem row_iff {α : Type} (p q : α → Bool) (o : α → Int) (xs : List α) (h : ∀ x, p x = true ↔ q x = true ∧ 0 ≤ o x ∧ o x ≤ 15) : rowB p o xs = (xs.all q && upFrom 15 (-1) (xs.map o)) := by
  rw [Bool.eq_iff_iff, rowB_iff, Bool.and_eq_true, List.all_eq_true, upFrom_iff]
  constructor
  · rintro ⟨h1, h2⟩
    refine ⟨fun x hx => ((h x).1 (h1 x hx)).1, fun y hy => ?_, h2⟩
    obtain ⟨x, hx, rfl⟩ := List.mem_map.1 hy
    have := ((h x).1 (h1 x hx)).2
    exact ⟨by omega, this.2⟩
  · rintro ⟨h1, h2, h3⟩
    refine ⟨fun x hx => (h x).2 ⟨h1 x hx, ?_⟩, h3⟩
    have := h2 (o x) (List.mem_map.2 ⟨x, hx, rfl⟩)
    exact ⟨by omega, this.2⟩
theorem scB_same (m : Scn) : scB2 m = scB m := by
  unfold scB2 scB
  rw [row_iff (lkB m.g) (lk2 m.g) Lk.o m.ls lk_iff, row_iff chB ch2 Ch.o m.cs ch_iff, row_iff ctB (fun c => inB 1 1000000 c.n) Ct.o m.gs ct_iff]
  have h5 : rowB (inB 0 15) (fun x => x) m.os = upFrom 15 (-1) m.os := by
    rw [row_iff (inB 0 15) (fun _ => true) (fun x => x) m.os (fun x => by simp [inB])]
    simp
  rw [h5]
end Go.Proofs.YtihdablgnmkjnaaGreatDoor
/-
  The program's SceneOk answers as the specification's.
-/
namespace Go.Proofs.YtihdablgnmkjnaaGreatDoor
open Go.RowKit

set_option maxHeartbeats 2000000 in
theorem implScene_any {B : Nat → Prop} (s : Sv) (m : Scn) (w : World) (h : ScR B w s m) :
    Calls Tryz.prog 15 #[.agg #[.int .i64 s.g, .slice s.lo s.ll s.lc, .slice s.co s.cl s.cc, .slice s.no s.nl s.nc, .slice s.oo s.ol s.oc]] w fun e w' => e = .returned (.bool (scB m)) ∧ Fr w w' := by
  rw [← scB_same m]
  unfold scB2
  have fW := Fr.alloc w (.cells #[.int .i64 s.g, .slice s.lo s.ll s.lc, .slice s.co s.cl s.cc, .slice s.no s.nl s.nc, .slice s.oo s.ol s.oc] 29)
  have k1 := ScK.new w s
  obtain ⟨lvs, r1, n1, L1⟩ := h.lks
  have HG : Hid (s.g = m.g) := h.g
  have hg := h.g
  have cL := fun u (f : Fr w u) (g0 : 1 ≤ m.g) (g1 : m.g ≤ 16) => locksOk_any s.lo s.ll s.lc m.g lvs m.ls u n1.symm (by rw [L1.len]; exact h.sl) g0 g1 (r1.fr f) (L1.fr f)
  have cC := fun u (f : Fr w u) => chansOk_any s.co s.cl s.cc m.cs u h.cl.symm h.sc (h.chs.fr f)
  have cN := fun u (f : Fr w u) => groupsOk_any s.no s.nl s.nc m.gs u h.nl.symm h.sn (h.cts.fr f)
  have cO := fun u (f : Fr w u) => risesI_any s.oo s.ol s.oc m.os 15 u h.ol.symm h.so (h.ons.fr f)
  rw [← hg]
  simp only [← hg] at cL
  clear h hg r1 n1 L1
  obtain ⟨XL, hXL⟩ : ∃ X, X = (m.ls.all (lk2 s.g) && upFrom 15 (-1) (m.ls.map Lk.o)) := ⟨_, rfl⟩
  obtain ⟨XC, hXC⟩ : ∃ X, X = (m.cs.all ch2 && upFrom 15 (-1) (m.cs.map Ch.o)) := ⟨_, rfl⟩
  obtain ⟨XN, hXN⟩ : ∃ X, X = (m.gs.all (fun c => inB 1 1000000 c.n) && upFrom 15 (-1) (m.gs.map Ct.o)) := ⟨_, rfl⟩
  obtain ⟨XO, hXO⟩ : ∃ X, X = upFrom 15 (-1) m.os := ⟨_, rfl⟩
  simp only [← hXL] at cL ⊢
  simp only [← hXC] at cC ⊢
  simp only [← hXN] at cN ⊢
  simp only [← hXO] at cO ⊢
  clear hXL hXC hXN hXO
  obtain ⟨sg, lo, ll, lc, co, cl, cc, no, nl, nc, oo, ol, oc⟩ := s
  simp only at fW k1 cL cC cN cO HG ⊢
  cases hin : inB 1 16 sg
  · go_enter Tryz.func15, Tryz.ntmps15
    go_wp2_with fail
    refine (within_any _ _ _ _).mono ?_
    rintro e y ⟨rfl, rfl⟩
    go_wp2_with fail
    go_ret
    exact ⟨rfl, fW⟩
  have hb := inB_true hin
  obtain ⟨W, hW⟩ : ∃ W, W = w.alloc (.cells #[.int .i64 sg, .slice lo ll lc, .slice co cl cc, .slice no nl nc, .slice oo ol oc] 29) := ⟨_, rfl⟩
  have HQ : Hid (∀ u, Fr W u → ScB u w.heap.size ⟨sg, lo, ll, lc, co, cl, cc, no, nl, nc, oo, ol, oc⟩) := fun u f => by rw [hW] at f; exact (k1.fr f).at
  clear k1
  go_enter Tryz.func15, Tryz.ntmps15
  go_wp2_with fail
  refine (within_any _ _ _ _).mono ?_
  rintro e y ⟨rfl, rfl⟩
  rw [← hW] at fW ⊢
  clear hW
  obtain ⟨s0, s1, s2, s3, s4⟩ := HQ.out _ (Fr.refl _)
  simp only at s0 s1 s2 s3 s4
  simp only [hin]
  go_wp2_with fail
  refine (cL _ fW hb.1 hb.2).mono ?_
  rintro e u1 ⟨rfl, f1⟩
  clear s0 s1 s2 s3 s4 cL
  obtain ⟨s0, s1, s2, s3, s4⟩ := HQ.out _ f1
  simp only at s0 s1 s2 s3 s4
  cases XL
  · go_wp2_with fail
    go_ret
    exact ⟨rfl, fW.trans f1⟩
  go_wp2_with fail
  refine (cC _ (fW.trans f1)).mono ?_
  rintro e u2 ⟨rfl, f2⟩
  have f2 := f1.trans f2
  clear s0 s1 s2 s3 s4 cC
  obtain ⟨s0, s1, s2, s3, s4⟩ := HQ.out _ f2
  simp only at s0 s1 s2 s3 s4
  cases XC
  · go_wp2_with fail
    go_ret
    exact ⟨rfl, fW.trans f2⟩
  go_wp2_with fail
  refine (cN _ (fW.trans f2)).mono ?_
  rintro e u3 ⟨rfl, f3⟩
  have f3 := f2.trans f3
  clear s0 s1 s2 s3 s4 cN
  obtain ⟨s0, s1, s2, s3, s4⟩ := HQ.out _ f3
  simp only at s0 s1 s2 s3 s4
  cases XN
  · go_wp2_with fail
    go_ret
    exact ⟨rfl, fW.trans f3⟩
  go_wp2_with fail
  refine (cO _ (fW.trans f3)).mono ?_
  rintro e u4 ⟨rfl, rfl⟩
  go_wp2_with fail
  go_ret
  exact ⟨by simp, fW.trans f3⟩
end Go.Proofs.YtihdablgnmkjnaaGreatDoor
/-
  A board that is a scene: what its maps hold, and that the program's ten questions make the specification's code.
-/
namespace Go.Proofs.YtihdablgnmkjnaaGreatDoor
open Go.RowKit

/-- The lock's value that a map holds is the lock that is meant. -/
def LkAt (B : Nat → Prop) (w : World) (v : Option Value) (l : Option Lk) : Prop :=
  (l = none ∧ v = none) ∨ ∃ lk lv, l = some lk ∧ v = some (valL lv) ∧ LkR B w lv lk
theorem LkAt.keep {B : Nat → Prop} {w w' : World} {v : Option Value} {l : Option Lk} {row : Option Nat} (h : LkAt B w v l) (k : w.grownBy w' row) (hr : ∀ j, row = some j → ¬ B j) : LkAt B w' v l := by
  rcases h with h | ⟨lk, lv, h1, h2, h3⟩
  · exact .inl h
  · exact .inr ⟨lk, lv, h1, h2, h3.keep k hr⟩
theorem LkAt.mono {B B' : Nat → Prop} {w : World} {v : Option Value} {l : Option Lk} (h : LkAt B w v l) (hB : ∀ b, B b → B' b) : LkAt B' w v l := by
  rcases h with h | ⟨lk, lv, h1, h2, h3⟩
  · exact .inl h
  · exact .inr ⟨lk, lv, h1, h2, h3.mono hB⟩

/-- Block b is a board, and it is the scene m; its maps have at most n entries each. -/
structure BoardM (B : Nat → Prop) (w : World) (b b1 b2 b3 b4 n : Nat) (m : Scn) : Prop where
  c0 : w.cell? ⟨b, 0, none⟩ = some (.int .i64 m.g)
  c1 : w.cell? ⟨b, 1, none⟩ = some (.map (some b1))
  c2 : w.cell? ⟨b, 2, none⟩ = some (.map (some b2))
  c3 : w.cell? ⟨b, 3, none⟩ = some (.map (some b3))
  c4 : w.cell? ⟨b, 4, none⟩ = some (.map (some b4))
  m1 : ∃ fl, MapF w b1 n fl ∧ ∀ o, LkAt B w (fl o) (m.ls.find? fun l => l.o == o)
  m2 : MapF w b2 n fun o => (m.cs.find? fun c => c.o == o).map valC
  m3 : MapF w b3 n fun o => (m.gs.find? fun c => c.o == o).map valN
  m4 : MapF w b4 n fun o => (m.os.find? fun x => x == o).map valI
theorem MapF.mono {w : World} {b n n' : Nat} {f : Int → Option Value} (h : MapF w b n f) (hn : n ≤ n') : MapF w b n' f := by
  obtain ⟨D, h1, h2⟩ := h
  exact ⟨D, h1.mono hn, h2⟩
theorem BoardM.fr {B : Nat → Prop} {w w' : World} {b b1 b2 b3 b4 n : Nat} {m : Scn} (h : BoardM B w b b1 b2 b3 b4 n m) (k : Fr w w') : BoardM B w' b b1 b2 b3 b4 n m := by
  obtain ⟨fl, q1, q2⟩ := h.m1
  exact ⟨k.cell h.c0, k.cell h.c1, k.cell h.c2, k.cell h.c3, k.cell h.c4, ⟨fl, q1.fr k, fun o => (q2 o).keep k (by simp)⟩, h.m2.fr k, h.m3.fr k, h.m4.fr k⟩

theorem LksR.tail {B : Nat → Prop} {w : World} {lv : Lv} {l : Lk} {lvs : List Lv} {ls : List Lk} (h : LksR B w (lv :: lvs) (l :: ls)) : LkR B w lv l ∧ LksR B w lvs ls :=
  ⟨h.at_ 0 (by simp) (by simp), by have := h.len; simp at this; exact this, fun j h1 h2 => by have := h.at_ (j + 1) (by simp; omega) (by simp; omega); simpa using this⟩
theorem lk_find {B : Nat → Prop} {w : World} (o : Int) : ∀ (lvs : List Lv) (ls : List Lk), LksR B w lvs ls → LkAt B w ((lvs.find? fun l => l.o == o).map valL) (ls.find? fun l => l.o == o)
  | [], [], _ => .inl ⟨rfl, rfl⟩
  | [], _ :: _, h => by have := h.len; simp at this
  | _ :: _, [], h => by have := h.len; simp at this
  | lv :: lvs, l :: ls, h => by
    obtain ⟨h1, h2⟩ := h.tail
    have ih := lk_find o lvs ls h2
    rw [List.find?_cons, List.find?_cons, ← h1.o]
    cases hb : (lv.o == o)
    · exact ih
    · exact .inr ⟨l, lv, rfl, rfl, h1⟩
theorem lk_os {B : Nat → Prop} {w : World} : ∀ (lvs : List Lv) (ls : List Lk), LksR B w lvs ls → lvs.map Lv.o = ls.map Lk.o
  | [], [], _ => rfl
  | [], _ :: _, h => by have := h.len; simp at this
  | _ :: _, [], h => by have := h.len; simp at this
  | lv :: lvs, l :: ls, h => by
    obtain ⟨h1, h2⟩ := h.tail
    rw [List.map_cons, List.map_cons, h1.o, lk_os lvs ls h2]
theorem pair_map {α : Type} {num : α → Int} {xs : List α} (h : (xs.map num).Pairwise (· < ·)) : xs.Pairwise (fun a b => num a < num b) := List.pairwise_map.1 h
/-- What rises in a right scene. -/
theorem sc_rise {m : Scn} (h : scB m = true) : (m.ls.map Lk.o).Pairwise (· < ·) ∧ (m.cs.map Ch.o).Pairwise (· < ·) ∧ (m.gs.map Ct.o).Pairwise (· < ·) ∧ m.os.Pairwise (· < ·) := by
  obtain ⟨-, h1, h2, h3, h4⟩ := scB_parts h
  refine ⟨((rowB_iff _ _ _).1 h1).2, ((rowB_iff _ _ _).1 h2).2, ((rowB_iff _ _ _).1 h3).2, ?_⟩
  have := ((rowB_iff _ _ _).1 h4).2
  simpa using this

theorem boardM_of {B : Nat → Prop} {w : World} {b b1 b2 b3 b4 : Nat} {m : Scn} {lvs : List Lv} (hm : scB m = true) (hL : LksR B w lvs m.ls) (h1 : m.ls.length ≤ 1048576) (h2 : m.cs.length ≤ 1048576) (h3 : m.gs.length ≤ 1048576) (h4 : m.os.length ≤ 1048576)
    (h : Board w b m.g b1 b2 b3 b4 lvs.length m.cs.length m.gs.length m.os.length (numF Lv.o valL lvs) (numF Ch.o valC m.cs) (numF Ct.o valN m.gs) (numF id valI m.os)) : BoardM B w b b1 b2 b3 b4 1048576 m := by
  obtain ⟨r1, r2, r3, r4⟩ := sc_rise hm
  rw [← lk_os _ _ hL] at r1
  have e1 : numF Lv.o valL lvs = fun o => (lvs.find? fun l => l.o == o).map valL := funext fun o => numF_up _ _ _ o (pair_map r1)
  have e2 : numF Ch.o valC m.cs = fun o => (m.cs.find? fun l => l.o == o).map valC := funext fun o => numF_up _ _ _ o (pair_map r2)
  have e3 : numF Ct.o valN m.gs = fun o => (m.gs.find? fun l => l.o == o).map valN := funext fun o => numF_up _ _ _ o (pair_map r3)
  have e4 : numF id valI m.os = fun o => (m.os.find? fun l => l == o).map valI := funext fun o => numF_up _ _ _ o r4
  have q1 := h.m1
  have q2 := h.m2
  have q3 := h.m3
  have q4 := h.m4
  rw [e1] at q1
  rw [e2] at q2
  rw [e3] at q3
  rw [e4] at q4
  have hl := hL.len
  exact ⟨h.c0, h.c1, h.c2, h.c3, h.c4, ⟨_, q1.mono (by omega), fun o => lk_find o lvs m.ls hL⟩, q2.mono h2, q3.mono h3, q4.mono h4⟩

/-- What the maps answer. -/
def chanZ (m : Scn) (o : Int) : Ch := (m.cs.find? fun c => c.o == o).getD ⟨0, 0, 0, 0, false⟩
def countZ (m : Scn) (o : Int) : Ct := (m.gs.find? fun c => c.o == o).getD ⟨0, 0⟩
def lockZ (m : Scn) (o : Int) : Lk := (m.ls.find? fun c => c.o == o).getD ⟨0, 0, []⟩
def hasL (m : Scn) (o : Int) : Bool := (m.ls.find? fun c => c.o == o).isSome
def hasN (m : Scn) (o : Int) : Bool := (m.gs.find? fun c => c.o == o).isSome
def hasO (m : Scn) (o : Int) : Bool := (m.os.find? fun c => c == o).isSome

theorem zeroL (u : World) : (zeroValue 47).run Tryz.prog u = .ok (.agg #[.int .i64 0, .int .i64 0, .slice none 0 0]) u := by kernel_rfl
theorem zeroC (u : World) : (zeroValue 87).run Tryz.prog u = .ok (.agg #[.int .i64 0, .int .i64 0, .int .i64 0, .int .i64 0, .bool false]) u := by kernel_rfl
theorem zeroN (u : World) : (zeroValue 90).run Tryz.prog u = .ok (.agg #[.int .i64 0, .int .i64 0]) u := by kernel_rfl
theorem zeroI (u : World) : (zeroValue 2).run Tryz.prog u = .ok (.int .i64 0) u := by kernel_rfl

theorem BoardM.lookC {B : Nat → Prop} {w : World} {b b1 b2 b3 b4 n : Nat} {m : Scn} (h : BoardM B w b b1 b2 b3 b4 n m) {o : Int} (ho : I64 o) : ∀ u, Fr w u → (Instr.lookup 133 (.map (some b2)) (.int .i64 o) false).run Tryz.prog u = .ok (.agg #[.int .i64 (chanZ m o).o, .int .i64 (chanZ m o).cap, .int .i64 (chanZ m o).sent, .int .i64 (chanZ m o).got, .bool (chanZ m o).cl]) u := by
  intro u f
  rw [(h.m2.fr f).look Tryz.underlying133 (zeroC u) ho]
  unfold chanZ
  cases m.cs.find? (fun c => c.o == o) <;> rfl
theorem BoardM.lookC2 {B : Nat → Prop} {w : World} {b b1 b2 b3 b4 n : Nat} {m : Scn} (h : BoardM B w b b1 b2 b3 b4 n m) {o : Int} (ho : I64 o) : ∀ u, Fr w u → (Instr.lookup 133 (.map (some b2)) (.int .i64 o) true).run Tryz.prog u = .ok (.tuple #[.agg #[.int .i64 (chanZ m o).o, .int .i64 (chanZ m o).cap, .int .i64 (chanZ m o).sent, .int .i64 (chanZ m o).got, .bool (chanZ m o).cl], .bool (isChan m.cs o)]) u := by
  intro u f
  rw [(h.m2.fr f).look_ok Tryz.underlying133 (zeroC u) ho]
  unfold chanZ isChan
  cases m.cs.find? (fun c => c.o == o) <;> rfl
theorem BoardM.lookN2 {B : Nat → Prop} {w : World} {b b1 b2 b3 b4 n : Nat} {m : Scn} (h : BoardM B w b b1 b2 b3 b4 n m) {o : Int} (ho : I64 o) : ∀ u, Fr w u → (Instr.lookup 136 (.map (some b3)) (.int .i64 o) true).run Tryz.prog u = .ok (.tuple #[.agg #[.int .i64 (countZ m o).o, .int .i64 (countZ m o).n], .bool (hasN m o)]) u := by
  intro u f
  rw [(h.m3.fr f).look_ok Tryz.underlying136 (zeroN u) ho]
  unfold countZ hasN
  cases m.gs.find? (fun c => c.o == o) <;> rfl
theorem BoardM.lookN {B : Nat → Prop} {w : World} {b b1 b2 b3 b4 n : Nat} {m : Scn} (h : BoardM B w b b1 b2 b3 b4 n m) {o : Int} (ho : I64 o) : ∀ u, Fr w u → (Instr.lookup 136 (.map (some b3)) (.int .i64 o) false).run Tryz.prog u = .ok (.agg #[.int .i64 (countZ m o).o, .int .i64 (countZ m o).n]) u := by
  intro u f
  rw [(h.m3.fr f).look Tryz.underlying136 (zeroN u) ho]
  unfold countZ
  cases m.gs.find? (fun c => c.o == o) <;> rfl
theorem BoardM.lookO {B : Nat → Prop} {w : World} {b b1 b2 b3 b4 n : Nat} {m : Scn} (h : BoardM B w b b1 b2 b3 b4 n m) {o : Int} (ho : I64 o) : ∃ z : Int, ∀ u, Fr w u → (Instr.lookup 139 (.map (some b4)) (.int .i64 o) true).run Tryz.prog u = .ok (.tuple #[.int .i64 z, .bool (hasO m o)]) u := by
  refine ⟨(m.os.find? fun c => c == o).getD 0, fun u f => ?_⟩
  rw [(h.m4.fr f).look_ok Tryz.underlying139 (zeroI u) ho]
  unfold hasO
  cases m.os.find? (fun c => c == o) <;> rfl
/-- A lock: its value, whichever it is, reads as the lock that is meant. -/
theorem BoardM.lookL {B : Nat → Prop} {w : World} {b b1 b2 b3 b4 n : Nat} {m : Scn} (h : BoardM B w b b1 b2 b3 b4 n m) {o : Int} (ho : I64 o) : ∃ (lo : Int) (ro : Option Addr) (rn rc : Nat), (lockZ m o).rd.length = rn ∧ rn ≤ 1048576 ∧ Reads w ro (lockZ m o).rd ∧ (InB B ro ∧ (ro = none → rc = 0)) ∧
    (∀ u, Fr w u → (Instr.lookup 130 (.map (some b1)) (.int .i64 o) true).run Tryz.prog u = .ok (.tuple #[.agg #[.int .i64 lo, .int .i64 (lockZ m o).wr, .slice ro rn rc], .bool (hasL m o)]) u) ∧
    (∀ u, Fr w u → (Instr.lookup 130 (.map (some b1)) (.int .i64 o) false).run Tryz.prog u = .ok (.agg #[.int .i64 lo, .int .i64 (lockZ m o).wr, .slice ro rn rc]) u) := by
  obtain ⟨fl, q1, q2⟩ := h.m1
  rcases q2 o with ⟨h1, h2⟩ | ⟨lk, lv, h1, h2, h3⟩
  · refine ⟨0, none, 0, 0, by simp [lockZ, h1], by omega, by rw [lockZ, h1]; exact Reads.nil _ _, ⟨inB_none _, fun _ => rfl⟩, fun u f => ?_, fun u f => ?_⟩
    · rw [(q1.fr f).look_ok Tryz.underlying130 (zeroL u) ho, h2]
      simp [lockZ, hasL, h1]
    · rw [(q1.fr f).look Tryz.underlying130 (zeroL u) ho, h2]
      simp [lockZ, h1]
  · refine ⟨lv.o, lv.ro, lv.rn, lv.rc, by simp [lockZ, h1, h3.rn], by have := h3.rn; have := h3.sz; omega, by rw [lockZ, h1]; exact h3.rd, ⟨h3.bl, h3.rc⟩, fun u f => ?_, fun u f => ?_⟩
    · rw [(q1.fr f).look_ok Tryz.underlying130 (zeroL u) ho, h2]
      simp [lockZ, hasL, h1, valL, h3.wr]
    · rw [(q1.fr f).look Tryz.underlying130 (zeroL u) ho, h2]
      simp [lockZ, h1, valL, h3.wr]
end Go.Proofs.YtihdablgnmkjnaaGreatDoor
/-
  The program's questions on a board: who lacks a goroutine; what was done once.
-/
namespace Go.Proofs.YtihdablgnmkjnaaGreatDoor
open Go.RowKit

def lacksB (g : Int) (e : Ev) : Bool := decide (g ≤ e.g) || (decide (e.k = 1) && decide (e.o ≠ g)) || (decide (e.k = 9) && (decide (g ≤ e.w) || decide (e.w = e.g)))

set_option maxHeartbeats 1000000 in
theorem lacksGor_any (b : Nat) (g : Int) (e : Ev) (w : World) (hb : w.cell? ⟨b, 0, none⟩ = some (.int .i64 g)) :
    Calls Tryz.prog 116 #[.pointer (some ⟨b, 0, none⟩), .agg #[.int .i64 e.k, .int .i64 e.g, .int .i64 e.o, .int .i64 e.w, .int .i64 e.l, .int .i64 e.s, .int .i64 e.f, .int .i64 e.t]] w fun x w' => x = .returned (.bool (lacksB g e)) ∧ Fr w w' := by
  have fW := Fr.alloc w (.cells #[.int .i64 e.k, .int .i64 e.g, .int .i64 e.o, .int .i64 e.w, .int .i64 e.l, .int .i64 e.s, .int .i64 e.f, .int .i64 e.t] 31)
  have kE := EvAt.new w e 31
  have hb := fW.cell hb
  obtain ⟨R, hR⟩ : ∃ R, R = lacksB g e := ⟨_, rfl⟩
  rw [← hR]
  have HR : Hid (R = lacksB g e) := hR
  clear hR
  obtain ⟨k, gr, o, wi, l, sz, f, t⟩ := e
  simp only at fW kE hb ⊢
  go_enter Tryz.func116, Tryz.ntmps116
  go_wp2_with fail
  obtain ⟨W, hW⟩ : ∃ W, W = w.alloc (.cells #[.int .i64 k, .int .i64 gr, .int .i64 o, .int .i64 wi, .int .i64 l, .int .i64 sz, .int .i64 f, .int .i64 t] 31) := ⟨_, rfl⟩
  rw [← hW] at fW kE hb ⊢
  clear hW
  obtain ⟨c0, c1, c2, c3, c4, c5, c6, c7⟩ := kE
  simp only at c0 c1 c2 c3
  clear c4 c5 c6 c7
  go_region_held3 (fun u => u.cell? ⟨b, 0, none⟩ = some (.int .i64 g) ∧ u.cell? ⟨w.heap.size, 0, none⟩ = some (.int .i64 k) ∧ u.cell? ⟨w.heap.size, 1, none⟩ = some (.int .i64 gr) ∧ u.cell? ⟨w.heap.size, 2, none⟩ = some (.int .i64 o) ∧ u.cell? ⟨w.heap.size, 3, none⟩ = some (.int .i64 wi)) (go_keep) (fail)
  obtain ⟨V, hV⟩ : ∃ V, V = W.drew := ⟨_, rfl⟩
  have fV : Fr w V := by rw [hV]; exact fW.trans (Fr.drew W)
  have kE : V.cell? ⟨b, 0, none⟩ = some (.int .i64 g) ∧ V.cell? ⟨w.heap.size, 0, none⟩ = some (.int .i64 k) ∧ V.cell? ⟨w.heap.size, 1, none⟩ = some (.int .i64 gr) ∧ V.cell? ⟨w.heap.size, 2, none⟩ = some (.int .i64 o) ∧ V.cell? ⟨w.heap.size, 3, none⟩ = some (.int .i64 wi) := by rw [hV]; exact ⟨hb, c0, c1, c2, c3⟩
  rw [← hV]
  clear hV fW hb c0 c1 c2 c3
  obtain ⟨hb, c0, c1, c2, c3⟩ := kE
  by_cases h1 : g ≤ gr
  · have HN : Hid (R = true) := by show R = true; rw [HR.out]; simp [lacksB, h1]
    go_wp2_with fail
    go_ret
    exact ⟨ret_bool HN.out.symm, fV⟩
  · by_cases h2 : k = 1
    · subst h2
      by_cases h3 : o = g
      · have HN : Hid (R = false) := by show R = false; rw [HR.out]; simp [lacksB, h1, h3]
        have hq : (o != g) = false := by simp [h3]
        have h3 : Hid (o = g) := h3
        go_wp2_with fail
        go_region_held3 (fun u => u.cell? ⟨b, 0, none⟩ = some (.int .i64 g) ∧ u.cell? ⟨w.heap.size, 0, none⟩ = some (.int .i64 1) ∧ u.cell? ⟨w.heap.size, 1, none⟩ = some (.int .i64 gr) ∧ u.cell? ⟨w.heap.size, 2, none⟩ = some (.int .i64 o) ∧ u.cell? ⟨w.heap.size, 3, none⟩ = some (.int .i64 wi)) (go_keep) (fail)
        go_wp2_with fail
        go_ret
        exact ⟨ret_bool HN.out.symm, fV.trans (Fr.drew V)⟩
      · have HN : Hid (R = true) := by show R = true; rw [HR.out]; simp [lacksB, h1, h3]
        have hq : (o != g) = true := by simp [h3]
        go_wp2_with fail
        go_region_held3 (fun u => u.cell? ⟨b, 0, none⟩ = some (.int .i64 g) ∧ u.cell? ⟨w.heap.size, 0, none⟩ = some (.int .i64 1) ∧ u.cell? ⟨w.heap.size, 1, none⟩ = some (.int .i64 gr) ∧ u.cell? ⟨w.heap.size, 2, none⟩ = some (.int .i64 o) ∧ u.cell? ⟨w.heap.size, 3, none⟩ = some (.int .i64 wi)) (go_keep) (fail)
        go_wp2_with fail
        go_ret
        exact ⟨ret_bool HN.out.symm, fV.trans (Fr.drew V)⟩
    · by_cases h3 : k = 9
      · subst h3
        have := Later.some V
        have q0 : ∀ s : Later V, s.u.cell? ⟨b, 0, none⟩ = some (.int .i64 g) := fun s => s.fr.cell hb
        have q1 : ∀ s : Later V, s.u.cell? ⟨w.heap.size, 1, none⟩ = some (.int .i64 gr) := fun s => s.fr.cell c1
        have q3 : ∀ s : Later V, s.u.cell? ⟨w.heap.size, 3, none⟩ = some (.int .i64 wi) := fun s => s.fr.cell c3
        by_cases h4 : g ≤ wi
        · have HN : Hid (R = true) := by show R = true; rw [HR.out]; simp [lacksB, h4]
          go_wp2_with fail
          refine wp_region_grown (by kernel_rfl) (by kernel_rfl) ?_
          repeat (go_big_quiet_step (fail))
          refine wpQuiet_nil ?_
          rintro _ ⟨s, rfl⟩
          go_wp2_with fail
          go_ret
          exact ⟨ret_bool HN.out.symm, fV.trans s.fr⟩
        · by_cases h5 : wi = gr
          · have HN : Hid (R = true) := by show R = true; rw [HR.out]; simp [lacksB, h5]
            subst h5
            have hd : decide (g ≤ wi) = false := by simpa using h4
            go_wp2_with fail
            refine wp_region_grown (by kernel_rfl) (by kernel_rfl) ?_
            repeat (go_big_quiet_step (fail))
            refine wpQuiet_nil ?_
            rintro _ ⟨s, rfl⟩
            go_wp2_with fail
            go_ret
            exact ⟨ret_bool HN.out.symm, fV.trans s.fr⟩
          · have HN : Hid (R = false) := by show R = false; rw [HR.out]; simp [lacksB, h1, h4, h5]
            have hd : decide (g ≤ wi) = false := by simpa using h4
            go_wp2_with fail
            refine wp_region_grown (by kernel_rfl) (by kernel_rfl) ?_
            repeat (go_big_quiet_step (fail))
            refine wpQuiet_nil ?_
            rintro _ ⟨s, rfl⟩
            go_wp2_with fail
            go_ret
            exact ⟨ret_bool ((show (wi == gr) = false by simpa using h5).trans HN.out.symm), fV.trans s.fr⟩
      · have HN : Hid (R = false) := by show R = false; rw [HR.out]; simp [lacksB, h1, h2, h3]
        go_wp2_with fail
        go_ret
        exact ⟨ret_bool HN.out.symm, fV⟩
end Go.Proofs.YtihdablgnmkjnaaGreatDoor
/-
  codeFor: the program's code of an event on a board.
-/
namespace Go.Proofs.YtihdablgnmkjnaaGreatDoor
open Go.RowKit

def codeC (B0 B1 B2 B3 B4 B5 B6 B7 B8 B9 : Bool) : Int := if B0 = false then 1 else if B1 = true then 2 else if B2 = true then 3 else if B3 = true then 4 else if B4 = true then 5 else if B5 = true then 6 else if B6 = true then 7 else if B7 = true then 8 else if B8 = true then 9 else if B9 = true then 10 else 0

set_option maxHeartbeats 2000000 in
theorem codeFor_any (b : Nat) (e : Ev) (w : World) (B0 B1 B2 B3 B4 B5 B6 B7 B8 B9 : Bool)
    (q0 : ∀ u, Fr w u → Calls Tryz.prog 67 #[.agg #[.int .i64 e.k, .int .i64 e.g, .int .i64 e.o, .int .i64 e.w, .int .i64 e.l, .int .i64 e.s, .int .i64 e.f, .int .i64 e.t]] u fun x w' => x = .returned (.bool B0) ∧ Fr u w')
    (q1 : Hid (B0 = true → ∀ u, Fr w u → Calls Tryz.prog 116 #[.pointer (some ⟨b, 0, none⟩), .agg #[.int .i64 e.k, .int .i64 e.g, .int .i64 e.o, .int .i64 e.w, .int .i64 e.l, .int .i64 e.s, .int .i64 e.f, .int .i64 e.t]] u fun x w' => x = .returned (.bool B1) ∧ Fr u w'))
    (q2 : Hid (B0 = true → ∀ u, Fr w u → Calls Tryz.prog 117 #[.pointer (some ⟨b, 0, none⟩), .agg #[.int .i64 e.k, .int .i64 e.g, .int .i64 e.o, .int .i64 e.w, .int .i64 e.l, .int .i64 e.s, .int .i64 e.f, .int .i64 e.t]] u fun x w' => x = .returned (.bool B2) ∧ Fr u w'))
    (q3 : Hid (B0 = true → ∀ u, Fr w u → Calls Tryz.prog 118 #[.pointer (some ⟨b, 0, none⟩), .agg #[.int .i64 e.k, .int .i64 e.g, .int .i64 e.o, .int .i64 e.w, .int .i64 e.l, .int .i64 e.s, .int .i64 e.f, .int .i64 e.t]] u fun x w' => x = .returned (.bool B3) ∧ Fr u w'))
    (q4 : Hid (B0 = true → ∀ u, Fr w u → Calls Tryz.prog 119 #[.pointer (some ⟨b, 0, none⟩), .agg #[.int .i64 e.k, .int .i64 e.g, .int .i64 e.o, .int .i64 e.w, .int .i64 e.l, .int .i64 e.s, .int .i64 e.f, .int .i64 e.t]] u fun x w' => x = .returned (.bool B4) ∧ Fr u w'))
    (q5 : Hid (B0 = true → ∀ u, Fr w u → Calls Tryz.prog 120 #[.pointer (some ⟨b, 0, none⟩), .agg #[.int .i64 e.k, .int .i64 e.g, .int .i64 e.o, .int .i64 e.w, .int .i64 e.l, .int .i64 e.s, .int .i64 e.f, .int .i64 e.t]] u fun x w' => x = .returned (.bool B5) ∧ Fr u w'))
    (q6 : Hid (B0 = true → ∀ u, Fr w u → Calls Tryz.prog 121 #[.pointer (some ⟨b, 0, none⟩), .agg #[.int .i64 e.k, .int .i64 e.g, .int .i64 e.o, .int .i64 e.w, .int .i64 e.l, .int .i64 e.s, .int .i64 e.f, .int .i64 e.t]] u fun x w' => x = .returned (.bool B6) ∧ Fr u w'))
    (q7 : Hid (B0 = true → ∀ u, Fr w u → Calls Tryz.prog 122 #[.pointer (some ⟨b, 0, none⟩), .agg #[.int .i64 e.k, .int .i64 e.g, .int .i64 e.o, .int .i64 e.w, .int .i64 e.l, .int .i64 e.s, .int .i64 e.f, .int .i64 e.t]] u fun x w' => x = .returned (.bool B7) ∧ Fr u w'))
    (q8 : Hid (B0 = true → ∀ u, Fr w u → Calls Tryz.prog 123 #[.pointer (some ⟨b, 0, none⟩), .agg #[.int .i64 e.k, .int .i64 e.g, .int .i64 e.o, .int .i64 e.w, .int .i64 e.l, .int .i64 e.s, .int .i64 e.f, .int .i64 e.t]] u fun x w' => x = .returned (.bool B8) ∧ Fr u w'))
    (q9 : Hid (B0 = true → ∀ u, Fr w u → Calls Tryz.prog 124 #[.pointer (some ⟨b, 0, none⟩), .agg #[.int .i64 e.k, .int .i64 e.g, .int .i64 e.o, .int .i64 e.w, .int .i64 e.l, .int .i64 e.s, .int .i64 e.f, .int .i64 e.t]] u fun x w' => x = .returned (.bool B9) ∧ Fr u w')) :
    Calls Tryz.prog 48 #[.pointer (some ⟨b, 0, none⟩), .agg #[.int .i64 e.k, .int .i64 e.g, .int .i64 e.o, .int .i64 e.w, .int .i64 e.l, .int .i64 e.s, .int .i64 e.f, .int .i64 e.t]] w fun x w' => x = .returned (.int .i64 (codeC B0 B1 B2 B3 B4 B5 B6 B7 B8 B9)) ∧ Fr w w' := by
  have fW := Fr.alloc w (.cells #[.int .i64 e.k, .int .i64 e.g, .int .i64 e.o, .int .i64 e.w, .int .i64 e.l, .int .i64 e.s, .int .i64 e.f, .int .i64 e.t] 31)
  have kE := EvAt.new w e 31
  obtain ⟨k, gr, o, wi, l, sz, f, t⟩ := e
  simp only at fW kE q0 ⊢
  go_enter Tryz.func48, Tryz.ntmps48
  go_wp2_with fail
  obtain ⟨W, hW⟩ : ∃ W, W = w.alloc (.cells #[.int .i64 k, .int .i64 gr, .int .i64 o, .int .i64 wi, .int .i64 l, .int .i64 sz, .int .i64 f, .int .i64 t] 31) := ⟨_, rfl⟩
  rw [← hW] at fW kE ⊢
  clear hW
  have HE : Hid (∀ u, Fr W u → EvAt u w.heap.size ⟨k, gr, o, wi, l, sz, f, t⟩) := fun u f => kE.fr f
  clear kE
  refine (q0 W fW).mono ?_
  rintro x u0 ⟨rfl, f0⟩
  clear q0
  cases B0
  · go_wp2_with fail
    go_ret
    exact ⟨rfl, fW.trans f0⟩
  have g0 := f0
  clear f0
  have r1 := q1.out (by trivial)
  obtain ⟨c0, c1, c2, c3, c4, c5, c6, c7⟩ := HE.out _ g0
  simp only at c0 c1 c2 c3 c4 c5 c6 c7
  go_wp2_with fail
  refine (r1 u0 (fW.trans g0)).mono ?_
  rintro e u1 ⟨rfl, f1⟩
  clear q1 r1 c0 c1 c2 c3 c4 c5 c6 c7
  have g1 := g0.trans f1
  clear f1 g0
  cases B1
  case true =>
    go_wp2_with fail
    go_ret
    exact ⟨rfl, fW.trans g1⟩
  have r2 := q2.out (by trivial)
  obtain ⟨c0, c1, c2, c3, c4, c5, c6, c7⟩ := HE.out _ g1
  simp only at c0 c1 c2 c3 c4 c5 c6 c7
  go_wp2_with fail
  refine (r2 u1 (fW.trans g1)).mono ?_
  rintro e u2 ⟨rfl, f2⟩
  clear q2 r2 c0 c1 c2 c3 c4 c5 c6 c7
  have g2 := g1.trans f2
  clear f2 g1
  cases B2
  case true =>
    go_wp2_with fail
    go_ret
    exact ⟨rfl, fW.trans g2⟩
  have r3 := q3.out (by trivial)
  obtain ⟨c0, c1, c2, c3, c4, c5, c6, c7⟩ := HE.out _ g2
  simp only at c0 c1 c2 c3 c4 c5 c6 c7
  go_wp2_with fail
  refine (r3 u2 (fW.trans g2)).mono ?_
  rintro e u3 ⟨rfl, f3⟩
  clear q3 r3 c0 c1 c2 c3 c4 c5 c6 c7
  have g3 := g2.trans f3
  clear f3 g2
  cases B3
  case true =>
    go_wp2_with fail
    go_ret
    exact ⟨rfl, fW.trans g3⟩
  have r4 := q4.out (by trivial)
  obtain ⟨c0, c1, c2, c3, c4, c5, c6, c7⟩ := HE.out _ g3
  simp only at c0 c1 c2 c3 c4 c5 c6 c7
  go_wp2_with fail
  refine (r4 u3 (fW.trans g3)).mono ?_
  rintro e u4 ⟨rfl, f4⟩
  clear q4 r4 c0 c1 c2 c3 c4 c5 c6 c7
  have g4 := g3.trans f4
  clear f4 g3
  cases B4
  case true =>
    go_wp2_with fail
    go_ret
    exact ⟨rfl, fW.trans g4⟩
  have r5 := q5.out (by trivial)
  obtain ⟨c0, c1, c2, c3, c4, c5, c6, c7⟩ := HE.out _ g4
  simp only at c0 c1 c2 c3 c4 c5 c6 c7
  go_wp2_with fail
  refine (r5 u4 (fW.trans g4)).mono ?_
  rintro e u5 ⟨rfl, f5⟩
  clear q5 r5 c0 c1 c2 c3 c4 c5 c6 c7
  have g5 := g4.trans f5
  clear f5 g4
  cases B5
  case true =>
    go_wp2_with fail
    go_ret
    exact ⟨rfl, fW.trans g5⟩
  have r6 := q6.out (by trivial)
  obtain ⟨c0, c1, c2, c3, c4, c5, c6, c7⟩ := HE.out _ g5
  simp only at c0 c1 c2 c3 c4 c5 c6 c7
  go_wp2_with fail
  refine (r6 u5 (fW.trans g5)).mono ?_
  rintro e u6 ⟨rfl, f6⟩
  clear q6 r6 c0 c1 c2 c3 c4 c5 c6 c7
  have g6 := g5.trans f6
  clear f6 g5
  cases B6
  case true =>
    go_wp2_with fail
    go_ret
    exact ⟨rfl, fW.trans g6⟩
  have r7 := q7.out (by trivial)
  obtain ⟨c0, c1, c2, c3, c4, c5, c6, c7⟩ := HE.out _ g6
  simp only at c0 c1 c2 c3 c4 c5 c6 c7
  go_wp2_with fail
  refine (r7 u6 (fW.trans g6)).mono ?_
  rintro e u7 ⟨rfl, f7⟩
  clear q7 r7 c0 c1 c2 c3 c4 c5 c6 c7
  have g7 := g6.trans f7
  clear f7 g6
  cases B7
  case true =>
    go_wp2_with fail
    go_ret
    exact ⟨rfl, fW.trans g7⟩
  have r8 := q8.out (by trivial)
  obtain ⟨c0, c1, c2, c3, c4, c5, c6, c7⟩ := HE.out _ g7
  simp only at c0 c1 c2 c3 c4 c5 c6 c7
  go_wp2_with fail
  refine (r8 u7 (fW.trans g7)).mono ?_
  rintro e u8 ⟨rfl, f8⟩
  clear q8 r8 c0 c1 c2 c3 c4 c5 c6 c7
  have g8 := g7.trans f8
  clear f8 g7
  cases B8
  case true =>
    go_wp2_with fail
    go_ret
    exact ⟨rfl, fW.trans g8⟩
  have r9 := q9.out (by trivial)
  obtain ⟨c0, c1, c2, c3, c4, c5, c6, c7⟩ := HE.out _ g8
  simp only at c0 c1 c2 c3 c4 c5 c6 c7
  go_wp2_with fail
  refine (r9 u8 (fW.trans g8)).mono ?_
  rintro e u9 ⟨rfl, f9⟩
  clear q9 r9 c0 c1 c2 c3 c4 c5 c6 c7
  have g9 := g8.trans f9
  clear f9 g8
  cases B9
  case true =>
    go_wp2_with fail
    go_ret
    exact ⟨rfl, fW.trans g9⟩
  go_wp2_with fail
  go_ret
  exact ⟨rfl, fW.trans g9⟩
end Go.Proofs.YtihdablgnmkjnaaGreatDoor
/-
  The program's questions on a board: channels.
-/
namespace Go.Proofs.YtihdablgnmkjnaaGreatDoor
open Go.RowKit

def closedB (c : Ch) (e : Ev) : Bool := if e.k = 7 ∨ e.k = 9 ∨ e.k = 10 then c.cl else if e.k = 11 then !c.cl else false

set_option maxRecDepth 20000 in
set_option maxHeartbeats 1000000 in
theorem isWronglyClosed_any (b b2 : Nat) (c : Ch) (e : Ev) (w : World) (hb : w.cell? ⟨b, 2, none⟩ = some (.map (some b2)))
    (hL : ∀ u, Fr w u → (Instr.lookup 133 (.map (some b2)) (.int .i64 e.o) false).run Tryz.prog u = .ok (.agg #[.int .i64 c.o, .int .i64 c.cap, .int .i64 c.sent, .int .i64 c.got, .bool c.cl]) u) :
    Calls Tryz.prog 120 #[.pointer (some ⟨b, 0, none⟩), .agg #[.int .i64 e.k, .int .i64 e.g, .int .i64 e.o, .int .i64 e.w, .int .i64 e.l, .int .i64 e.s, .int .i64 e.f, .int .i64 e.t]] w fun x w' => x = .returned (.bool (closedB c e)) ∧ Fr w w' := by
  have fW := Fr.alloc w (.cells #[.int .i64 e.k, .int .i64 e.g, .int .i64 e.o, .int .i64 e.w, .int .i64 e.l, .int .i64 e.s, .int .i64 e.f, .int .i64 e.t] 31)
  have kE := EvAt.new w e 31
  have hb := fW.cell hb
  obtain ⟨R, hR⟩ : ∃ R, R = closedB c e := ⟨_, rfl⟩
  rw [← hR]
  have HR : Hid (R = closedB c e) := hR
  clear hR
  obtain ⟨k, gr, o, wi, l, sz, f, t⟩ := e
  obtain ⟨co, cap, sent, got, cl⟩ := c
  simp only at fW kE hb hL ⊢
  go_enter Tryz.func120, Tryz.ntmps120
  go_wp2_with fail
  obtain ⟨W, hW⟩ : ∃ W, W = w.alloc (.cells #[.int .i64 k, .int .i64 gr, .int .i64 o, .int .i64 wi, .int .i64 l, .int .i64 sz, .int .i64 f, .int .i64 t] 31) := ⟨_, rfl⟩
  rw [← hW] at fW kE hb ⊢
  clear hW
  obtain ⟨c0, c1, c2, c3, c4, c5, c6, c7⟩ := kE
  simp only at c0 c2
  clear c1 c3 c4 c5 c6 c7
  have HL : Hid (∀ u, Fr w u → (Instr.lookup 133 (.map (some b2)) (.int .i64 o) false).run Tryz.prog u = .ok (.agg #[.int .i64 co, .int .i64 cap, .int .i64 sent, .int .i64 got, .bool cl]) u) := hL
  clear hL
  have l1 := HL.out _ (fW.trans (Fr.drew W))
  have l2 := HL.out _ ((fW.trans (Fr.alloc W (.cells #[.int .i64 0, .int .i64 0, .int .i64 0, .int .i64 0, .bool false] 87))).trans (Fr.drew _))
  go_region_held3 (fun u => u.cell? ⟨b, 2, none⟩ = some (.map (some b2)) ∧ u.cell? ⟨w.heap.size, 2, none⟩ = some (.int .i64 o)) (go_keep) (fail)
  all_goals (
    clear l1 l2 HL
    obtain ⟨V, hV⟩ : ∃ V, V = (W.alloc (.cells #[.int .i64 co, .int .i64 cap, .int .i64 sent, .int .i64 got, .bool cl] 87)).drew := ⟨_, rfl⟩
    have fA : Fr W V := by rw [hV]; exact (Fr.alloc _ _).trans (Fr.drew _)
    have fV : Fr w V := fW.trans fA
    have x0 := fA.cell c0
    have y1 : V.cell? ⟨W.heap.size, 1, none⟩ = some (.int .i64 cap) := by rw [hV]; simp [go_sem]
    have y2 : V.cell? ⟨W.heap.size, 2, none⟩ = some (.int .i64 sent) := by rw [hV]; simp [go_sem]
    have y3 : V.cell? ⟨W.heap.size, 3, none⟩ = some (.int .i64 got) := by rw [hV]; simp [go_sem]
    have y4 : V.cell? ⟨W.heap.size, 4, none⟩ = some (.bool cl) := by rw [hV]; simp [go_sem]
    rw [← hV]
    clear hV fA c0 c2 hb
    rcases (show k = 7 ∨ k = 9 ∨ k = 10 ∨ k = 11 ∨ (k ≠ 7 ∧ k ≠ 9 ∧ k ≠ 10 ∧ k ≠ 11) by omega) with rfl | rfl | rfl | rfl | hk
    · have HN : Hid (R = cl) := by show R = cl; rw [HR.out]; simp [closedB]
      go_wp2_with fail
      go_ret
      exact ⟨ret_bool HN.out.symm, fV⟩
    · have HN : Hid (R = cl) := by show R = cl; rw [HR.out]; simp [closedB]
      go_wp2_with fail
      go_ret
      exact ⟨ret_bool HN.out.symm, fV⟩
    · have HN : Hid (R = cl) := by show R = cl; rw [HR.out]; simp [closedB]
      go_wp2_with fail
      go_ret
      exact ⟨ret_bool HN.out.symm, fV⟩
    · have HN : Hid (R = !cl) := by show R = !cl; rw [HR.out]; simp [closedB]
      go_wp2_with fail
      go_ret
      exact ⟨ret_bool HN.out.symm, fV⟩
    · obtain ⟨h7, h9, h10, h11⟩ := hk
      have HN : Hid (R = false) := by show R = false; rw [HR.out]; simp [closedB, h7, h9, h10, h11]
      go_wp2_with fail
      go_ret
      exact ⟨ret_bool HN.out.symm, fV⟩)
end Go.Proofs.YtihdablgnmkjnaaGreatDoor
/-
  The program's questions on a board: full and empty channels.
-/
namespace Go.Proofs.YtihdablgnmkjnaaGreatDoor
open Go.RowKit

def fullB (c : Ch) (e : Ev) : Bool := decide (e.k = 7) && decide (c.sent - c.got = c.cap)
def emptyB (c : Ch) (e : Ev) : Bool := if e.k = 8 then decide (c.sent = c.got) else if e.k = 11 then decide (c.sent ≠ c.got) else false

set_option maxRecDepth 20000 in
set_option maxHeartbeats 1000000 in
theorem isFull_any (b b2 : Nat) (c : Ch) (e : Ev) (w : World) (hb : w.cell? ⟨b, 2, none⟩ = some (.map (some b2)))
    (hs : 0 ≤ c.got ∧ c.got ≤ c.sent ∧ c.sent ≤ 1000000) (hL : ∀ u, Fr w u → (Instr.lookup 133 (.map (some b2)) (.int .i64 e.o) false).run Tryz.prog u = .ok (.agg #[.int .i64 c.o, .int .i64 c.cap, .int .i64 c.sent, .int .i64 c.got, .bool c.cl]) u) :
    Calls Tryz.prog 121 #[.pointer (some ⟨b, 0, none⟩), .agg #[.int .i64 e.k, .int .i64 e.g, .int .i64 e.o, .int .i64 e.w, .int .i64 e.l, .int .i64 e.s, .int .i64 e.f, .int .i64 e.t]] w fun x w' => x = .returned (.bool (fullB c e)) ∧ Fr w w' := by
  have fW := Fr.alloc w (.cells #[.int .i64 e.k, .int .i64 e.g, .int .i64 e.o, .int .i64 e.w, .int .i64 e.l, .int .i64 e.s, .int .i64 e.f, .int .i64 e.t] 31)
  have kE := EvAt.new w e 31
  have hb := fW.cell hb
  obtain ⟨R, hR⟩ : ∃ R, R = fullB c e := ⟨_, rfl⟩
  rw [← hR]
  have HR : Hid (R = fullB c e) := hR
  clear hR
  obtain ⟨k, gr, o, wi, l, sz, f, t⟩ := e
  obtain ⟨co, cap, sent, got, cl⟩ := c
  simp only at fW kE hb hL hs ⊢
  go_enter Tryz.func121, Tryz.ntmps121
  go_wp2_with fail
  obtain ⟨W, hW⟩ : ∃ W, W = w.alloc (.cells #[.int .i64 k, .int .i64 gr, .int .i64 o, .int .i64 wi, .int .i64 l, .int .i64 sz, .int .i64 f, .int .i64 t] 31) := ⟨_, rfl⟩
  rw [← hW] at fW kE hb ⊢
  clear hW
  obtain ⟨c0, c1, c2, c3, c4, c5, c6, c7⟩ := kE
  simp only at c0 c2
  clear c1 c3 c4 c5 c6 c7
  have HL : Hid (∀ u, Fr w u → (Instr.lookup 133 (.map (some b2)) (.int .i64 o) false).run Tryz.prog u = .ok (.agg #[.int .i64 co, .int .i64 cap, .int .i64 sent, .int .i64 got, .bool cl]) u) := hL
  clear hL
  have l1 := HL.out _ (fW.trans (Fr.drew W))
  have l2 := HL.out _ ((fW.trans (Fr.alloc W (.cells #[.int .i64 0, .int .i64 0, .int .i64 0, .int .i64 0, .bool false] 87))).trans (Fr.drew _))
  go_region_held3 (fun u => u.cell? ⟨b, 2, none⟩ = some (.map (some b2)) ∧ u.cell? ⟨w.heap.size, 2, none⟩ = some (.int .i64 o)) (go_keep) (fail)
  all_goals (
    clear l1 l2 HL
    obtain ⟨V, hV⟩ : ∃ V, V = (W.alloc (.cells #[.int .i64 co, .int .i64 cap, .int .i64 sent, .int .i64 got, .bool cl] 87)).drew := ⟨_, rfl⟩
    have fA : Fr W V := by rw [hV]; exact (Fr.alloc _ _).trans (Fr.drew _)
    have fV : Fr w V := fW.trans fA
    have x0 := fA.cell c0
    have y1 : V.cell? ⟨W.heap.size, 1, none⟩ = some (.int .i64 cap) := by rw [hV]; simp [go_sem]
    have y2 : V.cell? ⟨W.heap.size, 2, none⟩ = some (.int .i64 sent) := by rw [hV]; simp [go_sem]
    have y3 : V.cell? ⟨W.heap.size, 3, none⟩ = some (.int .i64 got) := by rw [hV]; simp [go_sem]
    have y4 : V.cell? ⟨W.heap.size, 4, none⟩ = some (.bool cl) := by rw [hV]; simp [go_sem]
    rw [← hV]
    clear hV fA c0 c2 hb
    obtain ⟨s1, s2, s3⟩ := hs
    by_cases hk : k = 7
    · subst hk
      by_cases h2 : sent - got = cap
      · have HN : Hid (R = true) := by show R = true; rw [HR.out]; simp [fullB, h2]
        subst h2
        go_wp2_with fail
        go_ret
        exact ⟨ret_bool HN.out.symm, fV⟩
      · have HN : Hid (R = false) := by show R = false; rw [HR.out]; simp [fullB, h2]
        go_wp2_with fail
        go_ret
        first | exact ⟨ret_bool HN.out.symm, fV⟩ | exact ⟨ret_bool ((show (sent - got == cap) = false by simpa using h2).trans HN.out.symm), fV⟩
    · have HN : Hid (R = false) := by show R = false; rw [HR.out]; simp [fullB, hk]
      go_wp2_with fail
      go_ret
      exact ⟨ret_bool HN.out.symm, fV⟩)

set_option maxRecDepth 20000 in
set_option maxHeartbeats 1000000 in
theorem isWronglyEmpty_any (b b2 : Nat) (c : Ch) (e : Ev) (w : World) (hb : w.cell? ⟨b, 2, none⟩ = some (.map (some b2)))
    (hL : ∀ u, Fr w u → (Instr.lookup 133 (.map (some b2)) (.int .i64 e.o) false).run Tryz.prog u = .ok (.agg #[.int .i64 c.o, .int .i64 c.cap, .int .i64 c.sent, .int .i64 c.got, .bool c.cl]) u) :
    Calls Tryz.prog 122 #[.pointer (some ⟨b, 0, none⟩), .agg #[.int .i64 e.k, .int .i64 e.g, .int .i64 e.o, .int .i64 e.w, .int .i64 e.l, .int .i64 e.s, .int .i64 e.f, .int .i64 e.t]] w fun x w' => x = .returned (.bool (emptyB c e)) ∧ Fr w w' := by
  have fW := Fr.alloc w (.cells #[.int .i64 e.k, .int .i64 e.g, .int .i64 e.o, .int .i64 e.w, .int .i64 e.l, .int .i64 e.s, .int .i64 e.f, .int .i64 e.t] 31)
  have kE := EvAt.new w e 31
  have hb := fW.cell hb
  obtain ⟨R, hR⟩ : ∃ R, R = emptyB c e := ⟨_, rfl⟩
  rw [← hR]
  have HR : Hid (R = emptyB c e) := hR
  clear hR
  obtain ⟨k, gr, o, wi, l, sz, f, t⟩ := e
  obtain ⟨co, cap, sent, got, cl⟩ := c
  simp only at fW kE hb hL ⊢
  go_enter Tryz.func122, Tryz.ntmps122
  go_wp2_with fail
  obtain ⟨W, hW⟩ : ∃ W, W = w.alloc (.cells #[.int .i64 k, .int .i64 gr, .int .i64 o, .int .i64 wi, .int .i64 l, .int .i64 sz, .int .i64 f, .int .i64 t] 31) := ⟨_, rfl⟩
  rw [← hW] at fW kE hb ⊢
  clear hW
  obtain ⟨c0, c1, c2, c3, c4, c5, c6, c7⟩ := kE
  simp only at c0 c2
  clear c1 c3 c4 c5 c6 c7
  have HL : Hid (∀ u, Fr w u → (Instr.lookup 133 (.map (some b2)) (.int .i64 o) false).run Tryz.prog u = .ok (.agg #[.int .i64 co, .int .i64 cap, .int .i64 sent, .int .i64 got, .bool cl]) u) := hL
  clear hL
  have l1 := HL.out _ (fW.trans (Fr.drew W))
  have l2 := HL.out _ ((fW.trans (Fr.alloc W (.cells #[.int .i64 0, .int .i64 0, .int .i64 0, .int .i64 0, .bool false] 87))).trans (Fr.drew _))
  go_region_held3 (fun u => u.cell? ⟨b, 2, none⟩ = some (.map (some b2)) ∧ u.cell? ⟨w.heap.size, 2, none⟩ = some (.int .i64 o)) (go_keep) (fail)
  all_goals (
    clear l1 l2 HL
    obtain ⟨V, hV⟩ : ∃ V, V = (W.alloc (.cells #[.int .i64 co, .int .i64 cap, .int .i64 sent, .int .i64 got, .bool cl] 87)).drew := ⟨_, rfl⟩
    have fA : Fr W V := by rw [hV]; exact (Fr.alloc _ _).trans (Fr.drew _)
    have fV : Fr w V := fW.trans fA
    have x0 := fA.cell c0
    have y1 : V.cell? ⟨W.heap.size, 1, none⟩ = some (.int .i64 cap) := by rw [hV]; simp [go_sem]
    have y2 : V.cell? ⟨W.heap.size, 2, none⟩ = some (.int .i64 sent) := by rw [hV]; simp [go_sem]
    have y3 : V.cell? ⟨W.heap.size, 3, none⟩ = some (.int .i64 got) := by rw [hV]; simp [go_sem]
    have y4 : V.cell? ⟨W.heap.size, 4, none⟩ = some (.bool cl) := by rw [hV]; simp [go_sem]
    rw [← hV]
    clear hV fA c0 c2 hb
    rcases (show k = 8 ∨ k = 11 ∨ (k ≠ 8 ∧ k ≠ 11) by omega) with rfl | rfl | hk
    · by_cases h2 : sent = got
      · have HN : Hid (R = true) := by show R = true; rw [HR.out]; simp [emptyB, h2]
        subst h2
        go_wp2_with fail
        go_ret
        exact ⟨ret_bool HN.out.symm, fV⟩
      · have HN : Hid (R = false) := by show R = false; rw [HR.out]; simp [emptyB, h2]
        go_wp2_with fail
        go_ret
        first | exact ⟨ret_bool HN.out.symm, fV⟩ | exact ⟨ret_bool ((show (sent == got) = false by simpa using h2).trans HN.out.symm), fV⟩
    · by_cases h2 : sent = got
      · have HN : Hid (R = false) := by show R = false; rw [HR.out]; simp [emptyB, h2]
        subst h2
        go_wp2_with fail
        go_ret
        exact ⟨ret_bool HN.out.symm, fV⟩
      · have HN : Hid (R = true) := by show R = true; rw [HR.out]; simp [emptyB, h2]
        go_wp2_with fail
        go_ret
        first | exact ⟨ret_bool HN.out.symm, fV⟩ | exact ⟨ret_bool ((show (sent != got) = true by simpa using h2).trans HN.out.symm), fV⟩
    · obtain ⟨h8, h11⟩ := hk
      have HN : Hid (R = false) := by show R = false; rw [HR.out]; simp [emptyB, h8, h11]
      go_wp2_with fail
      go_ret
      exact ⟨ret_bool HN.out.symm, fV⟩)
end Go.Proofs.YtihdablgnmkjnaaGreatDoor
