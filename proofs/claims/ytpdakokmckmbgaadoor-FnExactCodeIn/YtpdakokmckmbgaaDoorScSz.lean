/-
  The walk of the laws' szScene: what is known of a scene that came in.
-/
import Derived.Test.YtpdakokmckmbgaaDoorScTo3
namespace Go.Proofs.YtpdakokmckmbgaaDoor
open Go.RowKit

theorem szChanS_any (ao : Option Addr) (n cap : Nat) (L : Int) (w : World) (hn : n ≤ 9223372036854775807) (l0 : 0 ≤ L) (l1 : L ≤ 1048576) :
    Calls Tryd.prog 11 #[.slice ao n cap, .int .i64 L] w fun e w' => e = .returned (.int .i64 (if (n : Int) ≤ L then L - (n : Int) else -1)) ∧ w' = w := by
  by_cases h : (n : Int) ≤ L
  · rw [if_pos h]
    go_enter Tryd.func11, Tryd.ntmps11
    go_wp2
    go_ret
    exact ⟨rfl, rfl⟩
  · rw [if_neg h]
    go_enter Tryd.func11, Tryd.ntmps11
    go_wp2
    go_ret
    exact ⟨rfl, rfl⟩
theorem szCountS_any (ao : Option Addr) (n cap : Nat) (L : Int) (w : World) (hn : n ≤ 9223372036854775807) (l0 : 0 ≤ L) (l1 : L ≤ 1048576) :
    Calls Tryd.prog 12 #[.slice ao n cap, .int .i64 L] w fun e w' => e = .returned (.int .i64 (if (n : Int) ≤ L then L - (n : Int) else -1)) ∧ w' = w := by
  by_cases h : (n : Int) ≤ L
  · rw [if_pos h]
    go_enter Tryd.func12, Tryd.ntmps12
    go_wp2
    go_ret
    exact ⟨rfl, rfl⟩
  · rw [if_neg h]
    go_enter Tryd.func12, Tryd.ntmps12
    go_wp2
    go_ret
    exact ⟨rfl, rfl⟩
theorem szInt64S_any (ao : Option Addr) (n cap : Nat) (L : Int) (w : World) (hn : n ≤ 9223372036854775807) (l0 : 0 ≤ L) (l1 : L ≤ 1048576) :
    Calls Tryd.prog 13 #[.slice ao n cap, .int .i64 L] w fun e w' => e = .returned (.int .i64 (if (n : Int) ≤ L then L - (n : Int) else -1)) ∧ w' = w := by
  by_cases h : (n : Int) ≤ L
  · rw [if_pos h]
    go_enter Tryd.func13, Tryd.ntmps13
    go_wp2
    go_ret
    exact ⟨rfl, rfl⟩
  · rw [if_neg h]
    go_enter Tryd.func13, Tryd.ntmps13
    go_wp2
    go_ret
    exact ⟨rfl, rfl⟩

set_option maxHeartbeats 400000 in
theorem szLock_any (lv : Lv) (L : Int) (w : World) (hn : lv.rn ≤ 9223372036854775807) (l0 : 0 ≤ L) (l1 : L ≤ 1048576) :
    Calls Tryd.prog 31 #[.agg #[.int .i64 lv.o, .int .i64 lv.wr, .slice lv.ro lv.rn lv.rc], .int .i64 L] w fun e w' => e = .returned (.int .i64 (if (lv.rn : Int) ≤ L then L - (lv.rn : Int) else -1)) ∧ Fr w w' := by
  obtain ⟨o, wt, ro, rn, rc⟩ := lv
  simp only at hn ⊢
  have c := szInt64S_any ro rn rc L (w.alloc (.cells #[.int .i64 o, .int .i64 wt, .slice ro rn rc] 63)) hn l0 l1
  by_cases h : (rn : Int) ≤ L
  · rw [if_pos h] at c ⊢
    go_enter Tryd.func31, Tryd.ntmps31
    go_wp2_with fail
    refine c.mono ?_
    rintro e u ⟨rfl, rfl⟩
    go_wp2_with fail
    go_ret
    exact ⟨rfl, Fr.alloc _ _⟩
  · rw [if_neg h] at c ⊢
    go_enter Tryd.func31, Tryd.ntmps31
    go_wp2_with fail
    refine c.mono ?_
    rintro e u ⟨rfl, rfl⟩
    go_wp2_with fail
    go_ret
    exact ⟨rfl, Fr.alloc _ _⟩

set_option maxHeartbeats 1000000 in
theorem szLockS_any (ao : Option Addr) (n cap : Nat) (w : World) (hn : n ≤ 9223372036854775807) (h : n ≤ 1048576 → ∃ lvs : List Lv, lvs.length = n ∧ ReadsG layL w ao lvs ∧ ∀ lv ∈ lvs, lv.rn ≤ 9223372036854775807) :
    Calls Tryd.prog 10 #[.slice ao n cap, .int .i64 1048576] w fun e w' => ∃ r : Int, e = .returned (.int .i64 r) ∧ (r = -1 ∨ (0 ≤ r ∧ r ≤ 1048576 ∧ ∃ lvs : List Lv, lvs.length = n ∧ lvs.length ≤ 1048576 ∧ ReadsG layL w ao lvs ∧ ∀ lv ∈ lvs, lv.rn ≤ 1048576)) ∧ Fr w w' := by
  by_cases hb : n ≤ 1048576
  · obtain ⟨lvs, rfl, hr, hm⟩ := h hb
    clear h
    go_enter Tryd.func10, Tryd.ntmps10
    go_wp2_with fail
    go_loopw [1, 5] (fun q i wr => ∃ (k : Nat) (L : Int), k ≤ lvs.length ∧ i = .int .i64 k ∧ q = .int .i64 L ∧ 0 ≤ L ∧ L ≤ 1048576 ∧ Hid (∀ j (hj : j < lvs.length), j < k → lvs[j].rn ≤ 1048576) ∧ Fr w wr) (fun _ i _ => lvs.length - (intOf i).toNat)
    case atStart => exact ⟨0, 1048576 - (lvs.length : Int), Nat.zero_le _, rfl, by go_num, by omega, by omega, fun j hj hk => by omega, Fr.refl w⟩
    case round =>
      obtain ⟨k, L, hk, rfl, rfl, l0, l1, HA, hf⟩ := hrel
      by_cases hlt : k < lvs.length
      · obtain ⟨b, off, rfl, d0, d1, d2⟩ := lv_at (hr.fr hf) k hlt
        have hm2 := hm lvs[k] (List.getElem_mem hlt)
        have HX : Hid (lvs[k].rn ≤ 1048576 → ∀ j (hj : j < lvs.length), j < k + 1 → lvs[j].rn ≤ 1048576) := fun q j hj hjk => by
          by_cases e : j = k
          · subst e; exact q
          · exact HA.out j hj (by omega)
        obtain ⟨e, he⟩ : ∃ e, e = lvs[k] := ⟨_, rfl⟩
        simp only [← he] at d0 d1 d2 hm2
        rw [← he] at HX
        clear he
        have c := szLock_any e L wr hm2 l0 l1
        by_cases hle : (e.rn : Int) ≤ L
        · rw [if_pos hle] at c
          have HY := HX.out (by omega)
          have HY : Hid _ := HY
          go_wp2_with fail
          refine c.mono ?_
          rintro x u ⟨rfl, fu⟩
          have h0 : 0 ≤ L - (e.rn : Int) := by omega
          have h1 : L - (e.rn : Int) ≤ 1048576 := by omega
          obtain ⟨L2, hL2⟩ : ∃ L2, L2 = L - (e.rn : Int) := ⟨_, rfl⟩
          rw [← hL2] at h0 h1 ⊢
          clear hL2 c d0 d1 d2 hm2
          go_wp2_with fail
          go_roundw
          case rel => exact ⟨k + 1, L2, by omega, by go_num, rfl, h0, h1, HY, hf.trans fu⟩
          case measure => simp [intOf]; omega
        · rw [if_neg hle] at c
          go_wp2_with fail
          refine c.mono ?_
          rintro x u ⟨rfl, fu⟩
          go_wp2_with fail
          go_ret
          exact ⟨-1, rfl, .inl rfl, hf.trans fu⟩
      · go_wp2_with fail
        go_ret
        refine ⟨L, rfl, .inr ⟨l0, l1, lvs, rfl, hb, hr, fun lv hlv => ?_⟩, hf⟩
        obtain ⟨j, hj, rfl⟩ := List.mem_iff_getElem.1 hlv
        exact HA.out j hj (by omega)
  · have hd : (1048576 : Int) - (n : Int) < 0 := by omega
    go_enter Tryd.func10, Tryd.ntmps10
    go_wp2_with fail
    go_ret
    exact ⟨-1, rfl, .inl rfl, Fr.refl w⟩

/-- What is known of a scene that came in: its lists can be read where they are not too long. -/
structure InSc (w : World) (s : Sv) : Prop where
  ig : I64 s.g
  ml : s.ll ≤ 9223372036854775807
  mc : s.cl ≤ 9223372036854775807
  mn : s.nl ≤ 9223372036854775807
  mo : s.ol ≤ 9223372036854775807
  lks : s.ll ≤ 1048576 → ∃ lvs : List Lv, lvs.length = s.ll ∧ ReadsG layL w s.lo lvs ∧ ∀ lv ∈ lvs, lv.rn ≤ 9223372036854775807 ∧ I64 lv.o ∧ I64 lv.wr ∧ (lv.ro = none → lv.rc = 0) ∧ (lv.rn ≤ 1048576 → ∃ rd, rd.length = lv.rn ∧ Reads w lv.ro rd)
  chs : s.cl ≤ 1048576 → ∃ cs : List Ch, cs.length = s.cl ∧ ReadsG layC w s.co cs ∧ ∀ c ∈ cs, I64 c.o ∧ I64 c.cap ∧ I64 c.sent ∧ I64 c.got
  cts : s.nl ≤ 1048576 → ∃ cs : List Ct, cs.length = s.nl ∧ ReadsG layN w s.no cs ∧ ∀ c ∈ cs, I64 c.o ∧ I64 c.n
  ons : s.ol ≤ 1048576 → ∃ xs : List Int, xs.length = s.ol ∧ Reads w s.oo xs
  zo : s.oo = none → s.oc = 0
theorem InSc.fr {w w' : World} {s : Sv} (h : InSc w s) (f : Fr w w') : InSc w' s :=
  { h with
    lks := fun q => by
      obtain ⟨lvs, e1, r1, p1⟩ := h.lks q
      refine ⟨lvs, e1, r1.fr f, fun lv hlv => ?_⟩
      obtain ⟨q1, q2, q3, q4, q5⟩ := p1 lv hlv
      refine ⟨q1, q2, q3, q4, fun hq => ?_⟩
      obtain ⟨rd, e2, r2⟩ := q5 hq
      exact ⟨rd, e2, r2.fr f⟩
    chs := fun q => by
      obtain ⟨cs, e1, r1, p1⟩ := h.chs q
      exact ⟨cs, e1, r1.fr f, p1⟩
    cts := fun q => by
      obtain ⟨cs, e1, r1, p1⟩ := h.cts q
      exact ⟨cs, e1, r1.fr f, p1⟩
    ons := fun q => by
      obtain ⟨xs, e1, r1⟩ := h.ons q
      exact ⟨xs, e1, r1.fr f⟩ }
theorem lvs_model {w : World} (lvs : List Lv) (h : ∀ lv ∈ lvs, I64 lv.o ∧ I64 lv.wr ∧ (lv.ro = none → lv.rc = 0) ∧ lv.rn ≤ 1048576 ∧ ∃ rd, rd.length = lv.rn ∧ Reads w lv.ro rd) : ∃ ls, LksR (fun _ => True) w lvs ls := by
  induction lvs with
  | nil => exact ⟨[], LksR.nil _ _⟩
  | cons lv lvs ih =>
    obtain ⟨ls, hl⟩ := ih (fun x hx => h x (List.mem_cons_of_mem _ hx))
    obtain ⟨h1, h2, h3, h4, rd, h5, h6⟩ := h lv (List.mem_cons_self ..)
    refine ⟨⟨lv.o, lv.wr, rd⟩ :: ls, by simp [hl.len], fun j hj1 hj2 => ?_⟩
    cases j with
    | zero => exact ⟨rfl, rfl, h5.symm, h6, fun _ _ => trivial, h3, by show rd.length ≤ _; omega, h1, h2⟩
    | succ j => exact hl.at_ j (by simpa using hj1) (by simpa using hj2)
theorem InSc.small {w : World} {s : Sv} (h : InSc w s) (lvs : List Lv) (hl : lvs.length = s.ll) (hl2 : lvs.length ≤ 1048576) (hr : ReadsG layL w s.lo lvs) (hs : ∀ lv ∈ lvs, lv.rn ≤ 1048576) (hc : s.cl ≤ 1048576) (hn : s.nl ≤ 1048576) (ho : s.ol ≤ 1048576) : ∃ m : Scn, ScR (fun _ => True) w s m := by
  obtain ⟨lv2, e1, r1, p1⟩ := h.lks (by omega)
  have el : lvs = lv2 := by
    apply List.ext_getElem (by omega)
    intro j h1 h2
    obtain ⟨b, off, e, d0, d1, d2⟩ := lv_at hr j h1
    obtain ⟨b', off', e', x0, x1, x2⟩ := lv_at r1 j h2
    rw [e] at e'
    simp only [Option.some.injEq, Addr.mk.injEq, and_true] at e'
    obtain ⟨rfl, rfl⟩ := e'
    rw [d0] at x0; rw [d1] at x1; rw [d2] at x2
    simp only [Option.some.injEq, Value.int.injEq, Value.slice.injEq, true_and] at x0 x1 x2
    revert x0 x1 x2
    generalize lvs[j] = a
    generalize lv2[j] = c
    intro x0 x1 x2
    obtain ⟨a1, a2, a3, a4, a5⟩ := a
    obtain ⟨c1, c2, c3, c4, c5⟩ := c
    simp only at x0 x1 x2
    obtain ⟨y1, y2, y3⟩ := x2
    subst x0 x1 y1 y2 y3
    rfl
  obtain ⟨ls, hL⟩ := lvs_model (w := w) lvs (fun lv hlv => by
    have q := p1 lv (by rw [← el]; exact hlv)
    exact ⟨q.2.1, q.2.2.1, q.2.2.2.1, hs lv hlv, q.2.2.2.2 (hs lv hlv)⟩)
  obtain ⟨cs, e2, r2, p2⟩ := h.chs hc
  obtain ⟨gs, e3, r3, p3⟩ := h.cts hn
  obtain ⟨os, e4, r4⟩ := h.ons ho
  exact ⟨⟨s.g, ls, cs, gs, os⟩, { g := rfl, ig := h.ig, lks := ⟨lvs, hr, hl.symm, hL⟩, chs := r2, cl := e2.symm, cts := r3, nl := e3.symm, ons := r4, ol := e4.symm, bl := fun _ _ => trivial, bc := fun _ _ => trivial, bn := fun _ _ => trivial, bo := fun _ _ => trivial, zo := h.zo, sl := by have := hL.len; show ls.length ≤ _; omega, sc := by show cs.length ≤ _; omega, sn := by show gs.length ≤ _; omega, so := by show os.length ≤ _; omega, ic := p2, inn := p3 }⟩

set_option maxHeartbeats 1000000 in
theorem szScene_any (s : Sv) (w : World) (h : InSc w s) :
    Calls Tryd.prog 4 #[.agg #[.int .i64 s.g, .slice s.lo s.ll s.lc, .slice s.co s.cl s.cc, .slice s.no s.nl s.nc, .slice s.oo s.ol s.oc], .int .i64 1048576] w fun e w' => ∃ r : Int, e = .returned (.int .i64 r) ∧ (r = -1 ∨ (0 ≤ r ∧ ∃ m : Scn, ScR (fun _ => True) w s m)) ∧ Fr w w' := by
  have fW := Fr.alloc w (.cells #[.int .i64 s.g, .slice s.lo s.ll s.lc, .slice s.co s.cl s.cc, .slice s.no s.nl s.nc, .slice s.oo s.ol s.oc] 27)
  have ka := argB w s
  have cL := szLockS_any s.lo s.ll s.lc (w.alloc (.cells #[.int .i64 s.g, .slice s.lo s.ll s.lc, .slice s.co s.cl s.cc, .slice s.no s.nl s.nc, .slice s.oo s.ol s.oc] 27)) h.ml (fun q => by
    obtain ⟨lvs, e1, r1, p1⟩ := h.lks q
    exact ⟨lvs, e1, r1.fr fW, fun lv hlv => (p1 lv hlv).1⟩)
  have HI : Hid (InSc w s) := h
  have hc := h.mc
  have hn := h.mn
  have ho := h.mo
  have HL : Hid (∀ lvs : List Lv, lvs.length = s.ll → lvs.length ≤ 1048576 → ReadsG layL (w.alloc (.cells #[.int .i64 s.g, .slice s.lo s.ll s.lc, .slice s.co s.cl s.cc, .slice s.no s.nl s.nc, .slice s.oo s.ol s.oc] 27)) s.lo lvs → (∀ lv ∈ lvs, lv.rn ≤ 1048576) → s.cl ≤ 1048576 → s.nl ≤ 1048576 → s.ol ≤ 1048576 → ∃ m : Scn, ScR (fun _ => True) w s m) := by
    intro lvs e1 e2 e3 e4 e5 e6 e7
    obtain ⟨lv2, x1, x2, x3⟩ := h.lks (by omega)
    have el : lvs = lv2 := by
      apply List.ext_getElem (by omega)
      intro j h1 h2
      obtain ⟨b, off, e, d0, d1, d2⟩ := lv_at e3 j h1
      obtain ⟨b', off', e', y0, y1, y2⟩ := lv_at (x2.fr fW) j h2
      rw [e] at e'
      simp only [Option.some.injEq, Addr.mk.injEq, and_true] at e'
      obtain ⟨rfl, rfl⟩ := e'
      rw [d0] at y0; rw [d1] at y1; rw [d2] at y2
      simp only [Option.some.injEq, Value.int.injEq, Value.slice.injEq, true_and] at y0 y1 y2
      revert y0 y1 y2
      generalize lvs[j] = a
      generalize lv2[j] = c
      intro y0 y1 y2
      obtain ⟨a1, a2, a3, a4, a5⟩ := a
      obtain ⟨c1, c2, c3, c4, c5⟩ := c
      simp only at y0 y1 y2
      obtain ⟨z1, z2, z3⟩ := y2
      subst y0 y1 z1 z2 z3
      rfl
    subst el
    exact h.small lvs e1 e2 x2 e4 e5 e6 e7
  clear h
  obtain ⟨sg, lo, ll, lc, co, cl, cc, no, nl, nc, oo, ol, oc⟩ := s
  simp only at fW ka cL hc hn ho HL ⊢
  go_enter Tryd.func4, Tryd.ntmps4
  go_wp2_with fail
  obtain ⟨W, hW⟩ : ∃ W, W = w.alloc (.cells #[.int .i64 sg, .slice lo ll lc, .slice co cl cc, .slice no nl nc, .slice oo ol oc] 27) := ⟨_, rfl⟩
  rw [← hW] at fW ka cL ⊢
  simp only [← hW] at HL
  clear hW
  refine cL.mono ?_
  rintro x u1 ⟨r, rfl, hr, f1⟩
  clear cL
  rcases hr with rfl | ⟨r0, r1, lvs, e1, e2, e3, e4⟩
  · go_wp2_with fail
    go_ret
    exact ⟨-1, rfl, .inl rfl, fW.trans f1⟩
  have HL : Hid (cl ≤ 1048576 → nl ≤ 1048576 → ol ≤ 1048576 → ∃ m : Scn, ScR (fun _ => True) w ⟨sg, lo, ll, lc, co, cl, cc, no, nl, nc, oo, ol, oc⟩ m) := HL.out lvs e1 e2 e3 e4
  clear e1 e2 e3 e4
  obtain ⟨a0, a1, a2, a3, a4⟩ := ka.keep f1 (by simp)
  simp only at a0 a1 a2 a3 a4
  go_wp2_with fail
  refine (szChanS_any _ _ _ r _ hc r0 r1).mono ?_
  rintro e y ⟨rfl, rfl⟩
  by_cases h1 : (cl : Int) ≤ r
  · rw [if_pos h1]
    obtain ⟨r2, hr2⟩ : ∃ r2, r2 = r - (cl : Int) := ⟨_, rfl⟩
    have p0 : 0 ≤ r2 := by omega
    have p1 : r2 ≤ 1048576 := by omega
    rw [← hr2]
    clear hr2
    go_wp2_with fail
    refine (szCountS_any _ _ _ r2 _ hn p0 p1).mono ?_
    rintro e y ⟨rfl, rfl⟩
    by_cases h2 : (nl : Int) ≤ r2
    · rw [if_pos h2]
      obtain ⟨r3, hr3⟩ : ∃ r3, r3 = r2 - (nl : Int) := ⟨_, rfl⟩
      have q0 : 0 ≤ r3 := by omega
      have q1 : r3 ≤ 1048576 := by omega
      rw [← hr3]
      clear hr3
      go_wp2_with fail
      refine (szInt64S_any _ _ _ r3 _ ho q0 q1).mono ?_
      rintro e y ⟨rfl, rfl⟩
      by_cases h3 : (ol : Int) ≤ r3
      · rw [if_pos h3]
        obtain ⟨r4, hr4⟩ : ∃ r4, r4 = r3 - (ol : Int) := ⟨_, rfl⟩
        have w0 : 0 ≤ r4 := by omega
        have HM := HL.out (by omega) (by omega) (by omega)
        have HM : Hid _ := HM
        rw [← hr4]
        clear hr4
        go_wp2_with fail
        go_ret
        exact ⟨r4, rfl, .inr ⟨w0, HM.out⟩, fW.trans f1⟩
      · rw [if_neg h3]
        go_wp2_with fail
        go_ret
        exact ⟨-1, rfl, .inl rfl, fW.trans f1⟩
    · rw [if_neg h2]
      go_wp2_with fail
      go_ret
      exact ⟨-1, rfl, .inl rfl, fW.trans f1⟩
  · rw [if_neg h1]
    go_wp2_with fail
    go_ret
    exact ⟨-1, rfl, .inl rfl, fW.trans f1⟩
end Go.Proofs.YtpdakokmckmbgaaDoor
