/-
  Pack BI: ScChO, ScLkSetO.
-/
import Derived.Test.YtcofhmikdkkigaaGreatDoorPfAV
import Derived.Test.YtcofhmikdkkigaaGreatDoorPfAR
import Derived.Test.YtcofhmikdkkigaaGreatDoorPfAW
namespace Go.Proofs.YtcofhmikdkkigaaGreatDoor
open Go.RowKit

set_option maxRecDepth 20000 in
set_option maxHeartbeats 4000000 in
theorem l4SetChan_own {B : Nat → Prop} (s : Sv) (m : Scn) (kk : Ch) (w : World) (hK : I64 kk.o ∧ I64 kk.cap ∧ I64 kk.sent ∧ I64 kk.got) (hl : m.cs.length ≤ 1000) (h : ScR B w s m) :
    Calls Tryz.prog 168 #[.agg #[.int .i64 s.g, .slice s.lo s.ll s.lc, .slice s.co s.cl s.cc, .slice s.no s.nl s.nc, .slice s.oo s.ol s.oc], .agg #[.int .i64 kk.o, .int .i64 kk.cap, .int .i64 kk.sent, .int .i64 kk.got, .bool kk.cl]] w fun e w' => ∃ s' : Sv, e = .returned (.agg #[.int .i64 s'.g, .slice s'.lo s'.ll s'.lc, .slice s'.co s'.cl s'.cc, .slice s'.no s'.nl s'.nc, .slice s'.oo s'.ol s'.oc]) ∧ ScR (Grew B w w') w' s' (setCh m kk) ∧ Fr w w' ∧ (OwR w s → OwR w' s') := by
  have hr := h.chs
  have hN := h.cl
  have HR : Hid (ScR B w s m) := h
  clear h
  obtain ⟨g, lo, ll, lc, co, cl, cc, no, nl, nc, oo, ol, oc⟩ := s
  obtain ⟨ko, kcap, ksent, kgot, kcl⟩ := kk
  simp only at hr hN ⊢
  obtain ⟨gs, hgs⟩ : ∃ gs, gs = m.cs := ⟨_, rfl⟩
  have HG : Hid (m.cs = gs) := hgs.symm
  rw [← hgs] at hr hl hN
  subst hN
  clear hgs
  go_enter Tryz.func168, Tryz.ntmps168
  go_wp2_with fail
  obtain ⟨W, hW⟩ : ∃ W, W = ((w.alloc (.cells #[.int .i64 g, .slice lo ll lc, .slice co gs.length cc, .slice no nl nc, .slice oo ol oc] 29)).alloc (.cells #[.int .i64 ko, .int .i64 kcap, .int .i64 ksent, .int .i64 kgot, .bool kcl] 89)).alloc (.cells #[.int .i64 0, .slice none 0 0, .slice none 0 0, .slice none 0 0, .slice none 0 0] 29) := ⟨_, rfl⟩
  obtain ⟨k1, k2, fW, hz, f3⟩ := box3 w ⟨g, lo, ll, lc, co, gs.length, cc, no, nl, nc, oo, ol, oc⟩ (.cells #[.int .i64 ko, .int .i64 kcap, .int .i64 ksent, .int .i64 kgot, .bool kcl] 89)
  have kc := chan_cells_fr (k := ⟨ko, kcap, ksent, kgot, kcl⟩) (off := 0) (chan_cells (w.alloc (.cells #[.int .i64 g, .slice lo ll lc, .slice co gs.length cc, .slice no nl nc, .slice oo ol oc] 29)) ⟨ko, kcap, ksent, kgot, kcl⟩) f3
  simp only [Nat.zero_add, World.size_alloc] at k1 k2 kc
  rw [← hW] at k1 k2 kc fW hz ⊢
  obtain ⟨b0, hbb⟩ : ∃ b0, b0 = w.heap.size := ⟨_, rfl⟩
  rw [← hbb] at k1 k2 kc hz ⊢
  have HB : Hid (b0 = w.heap.size) := hbb
  have HZ : Hid (W.heap.size = b0 + 3) := hz
  have k2 : ScK W (b0 + 1 + 1) ⟨0, none, 0, 0, none, 0, 0, none, 0, 0, none, 0, 0⟩ := k2
  have HK : Hid (∀ u, Fr W u → u.cell? ⟨b0 + 1, 0, none⟩ = some (.int .i64 ko) ∧ u.cell? ⟨b0 + 1, 1, none⟩ = some (.int .i64 kcap) ∧ u.cell? ⟨b0 + 1, 2, none⟩ = some (.int .i64 ksent) ∧ u.cell? ⟨b0 + 1, 3, none⟩ = some (.int .i64 kgot) ∧ u.cell? ⟨b0 + 1, 4, none⟩ = some (.bool kcl)) := fun u f => ⟨f.cell kc.1, f.cell kc.2.1, f.cell kc.2.2.1, f.cell kc.2.2.2.1, f.cell kc.2.2.2.2⟩
  have HC : Hid (∀ u, Fr W u → u.cell? ⟨b0, 2, none⟩ = some (.slice co gs.length cc)) := fun u f => (k1.fr f).at.c2
  have HW : Hid (b0 + 1 + 1 + 1 = W.heap.size) := hz.symm
  clear hW hbb f3 hz kc
  go_loopw [5, 6, 7] (fun u q i wr => ∃ (k : Nat) (ys : List Ch) (b : Bool), k ≤ gs.length ∧ i = .int .i64 k ∧ q = .bool b ∧ Hid (setP Ch.o ⟨ko, kcap, ksent, kgot, kcl⟩ false (gs.take k) = (ys, b)) ∧ ys.length ≤ 2 * k ∧ OwnG layC wr W.heap.size u ys ∧ Fr W wr) (fun _ _ i _ => gs.length - (intOf i).toNat)
  case atStart => exact ⟨0, [], _, Nat.zero_le _, rfl, rfl, rfl, by simp, by rw [HW.out]; exact ownG_new layC W _ (Nat.le_refl _), Fr.alloc W _⟩
  case round =>
    obtain ⟨k, ys, b, hk, rfl, rfl, HP, hyl, hown, hf⟩ := hrel
    have hs := hf.size
    have hbk := hown.blk
    have c2 := HC.out _ hf
    by_cases hlt : k < gs.length
    · obtain ⟨bl, off, rfl, d0, d1, d2, d3, d4⟩ := ch_at (hr.fr fW) k hlt
      have HS : Hid (setP Ch.o ⟨ko, kcap, ksent, kgot, kcl⟩ false (gs.take (k + 1)) = setS Ch.o ⟨ko, kcap, ksent, kgot, kcl⟩ (ys, b) gs[k]) := by
        show setP Ch.o ⟨ko, kcap, ksent, kgot, kcl⟩ false (gs.take (k + 1)) = setS Ch.o ⟨ko, kcap, ksent, kgot, kcl⟩ (ys, b) gs[k]
        rw [setP_step Ch.o _ _ gs k hlt, HP.out]
      obtain ⟨y, hy⟩ : ∃ y, y = gs[k] := ⟨_, rfl⟩
      simp only [← hy] at d0 d1 d2 d3 d4
      rw [← hy] at HS
      clear hy HP
      obtain ⟨yo, ycap, ysent, ygot, ycl⟩ := y
      simp only at d0 d1 d2 d3 d4
      have HD : Hid (∀ u, Fr W u → u.cell? ⟨bl, off + k * 5, none⟩ = some (.int .i64 yo) ∧ u.cell? ⟨bl, off + k * 5 + 1, none⟩ = some (.int .i64 ycap) ∧ u.cell? ⟨bl, off + k * 5 + 2, none⟩ = some (.int .i64 ysent) ∧ u.cell? ⟨bl, off + k * 5 + 3, none⟩ = some (.int .i64 ygot) ∧ u.cell? ⟨bl, off + k * 5 + 4, none⟩ = some (.bool ycl)) := fun u f => ⟨f.cell d0, f.cell d1, f.cell d2, f.cell d3, f.cell d4⟩
      clear d0 d1 d2 d3 d4
      go_wp2_with fail
      clear c2
      cases b
      · by_cases h1 : ko < yo
        · have HN : Hid (setP Ch.o ⟨ko, kcap, ksent, kgot, kcl⟩ false (gs.take (k + 1)) = (ys ++ [⟨ko, kcap, ksent, kgot, kcl⟩] ++ [⟨yo, ycap, ysent, ygot, ycl⟩], true)) := by
            show setP Ch.o ⟨ko, kcap, ksent, kgot, kcl⟩ false (gs.take (k + 1)) = (ys ++ [⟨ko, kcap, ksent, kgot, kcl⟩] ++ [⟨yo, ycap, ysent, ygot, ycl⟩], true)
            rw [HS.out]; exact setS_in h1
          clear HS
          have e2 : (yo == ko) = false := beq_eq_false_iff_ne.2 (by omega)
          have h1' : ko ≤ yo := by omega
          clear h1
          have := Later.some wr
          have q2 : ∀ s : Later wr, s.u.cell? ⟨b0, 2, none⟩ = some (.slice (some ⟨bl, off, none⟩) gs.length cc) := fun s => HC.out _ (hf.trans s.fr)
          have qk : ∀ s : Later wr, s.u.cell? ⟨b0 + 1, 0, none⟩ = some (.int .i64 ko) := fun s => (HK.out _ (hf.trans s.fr)).1
          have qd : ∀ s : Later wr, s.u.cell? ⟨bl, off + k * 5, none⟩ = some (.int .i64 yo) := fun s => (HD.out _ (hf.trans s.fr)).1
          refine wp_region_grown (by kernel_rfl) (by kernel_rfl) ?_
          repeat (go_big_quiet_step (fail))
          refine wpQuiet_nil ?_
          rintro _ ⟨s1, rfl⟩
          clear q2 qk qd
          have f1 := hf.trans s1.fr
          have z1 := f1.size
          obtain ⟨c10, c11, c12, c13, c14⟩ := HK.out _ f1
          obtain ⟨e10, e11, e12, e13, e14⟩ := HD.out _ f1
          have e15 := HC.out _ f1
          have o1 := hown.fr s1.fr
          go_wp2_with (at_builtin; refine appC _ rfl _ _ rfl W.heap.size u5 ys ⟨ko, kcap, ksent, kgot, kcl⟩ rfl o1 rfl (by first | omega | (simp; omega)) z1 ?_; intro v4 w4 hv4 hg4)
          have g4 := (f1.trans (Fr.alloc _ _)).then hg4 o1.blk
          clear c10 c11 c12 c13 c14 e10 e11 e12 e13 e14 e15
          clear hg4
          have := Later.some w4
          have q2 : ∀ s : Later w4, s.u.cell? ⟨b0, 2, none⟩ = some (.slice (some ⟨bl, off, none⟩) gs.length cc) := fun s => HC.out _ (g4.trans s.fr)
          have qk : ∀ s : Later w4, s.u.cell? ⟨b0 + 1, 0, none⟩ = some (.int .i64 ko) := fun s => (HK.out _ (g4.trans s.fr)).1
          have qd : ∀ s : Later w4, s.u.cell? ⟨bl, off + k * 5, none⟩ = some (.int .i64 yo) := fun s => (HD.out _ (g4.trans s.fr)).1
          refine wp_region_grown (by kernel_rfl) (by kernel_rfl) ?_
          repeat (go_big_quiet_step (fail))
          refine wpQuiet_nil ?_
          rintro _ ⟨s2, rfl⟩
          clear q2 qk qd
          have f2 := g4.trans s2.fr
          have z2 := f2.size
          obtain ⟨c20, c21, c22, c23, c24⟩ := HK.out _ f2
          obtain ⟨e20, e21, e22, e23, e24⟩ := HD.out _ f2
          have e25 := HC.out _ f2
          have o2 := hv4.fr s2.fr
          go_wp2_with (at_builtin; refine appC _ rfl _ _ rfl W.heap.size v4 (ys ++ [⟨ko, kcap, ksent, kgot, kcl⟩]) ⟨yo, ycap, ysent, ygot, ycl⟩ rfl o2 rfl (by first | omega | (simp; omega)) z2 ?_; intro v6 w6 hv6 hg6)
          have g6 := (f2.trans (Fr.alloc _ _)).then hg6 o2.blk
          clear c20 c21 c22 c23 c24 e20 e21 e22 e23 e24 e25
          clear hg6
          go_roundw
          case rel => exact ⟨k + 1, _, _, by omega, by go_num, rfl, HN, by first | omega | (simp; omega), hv6, g6⟩
          case measure => simp [intOf]; omega
        · by_cases h2 : yo = ko
          · have HN : Hid (setP Ch.o ⟨ko, kcap, ksent, kgot, kcl⟩ false (gs.take (k + 1)) = (ys ++ [⟨ko, kcap, ksent, kgot, kcl⟩], true)) := by
              show setP Ch.o ⟨ko, kcap, ksent, kgot, kcl⟩ false (gs.take (k + 1)) = (ys ++ [⟨ko, kcap, ksent, kgot, kcl⟩], true)
              rw [HS.out]; exact setS_at h2
            clear HS
            have e2 : (yo == ko) = true := beq_iff_eq.2 h2
            have h1' : ko ≤ yo := by omega
            clear h1 h2
            have := Later.some wr
            have q2 : ∀ s : Later wr, s.u.cell? ⟨b0, 2, none⟩ = some (.slice (some ⟨bl, off, none⟩) gs.length cc) := fun s => HC.out _ (hf.trans s.fr)
            have qk : ∀ s : Later wr, s.u.cell? ⟨b0 + 1, 0, none⟩ = some (.int .i64 ko) := fun s => (HK.out _ (hf.trans s.fr)).1
            have qd : ∀ s : Later wr, s.u.cell? ⟨bl, off + k * 5, none⟩ = some (.int .i64 yo) := fun s => (HD.out _ (hf.trans s.fr)).1
            refine wp_region_grown (by kernel_rfl) (by kernel_rfl) ?_
            repeat (go_big_quiet_step (fail))
            refine wpQuiet_nil ?_
            rintro _ ⟨s1, rfl⟩
            clear q2 qk qd
            have f1 := hf.trans s1.fr
            have z1 := f1.size
            obtain ⟨c10, c11, c12, c13, c14⟩ := HK.out _ f1
            obtain ⟨e10, e11, e12, e13, e14⟩ := HD.out _ f1
            have e15 := HC.out _ f1
            have o1 := hown.fr s1.fr
            go_wp2_with (at_builtin; refine appC _ rfl _ _ rfl W.heap.size u5 ys ⟨ko, kcap, ksent, kgot, kcl⟩ rfl o1 rfl (by first | omega | (simp; omega)) z1 ?_; intro v4 w4 hv4 hg4)
            have g4 := (f1.trans (Fr.alloc _ _)).then hg4 o1.blk
            clear c10 c11 c12 c13 c14 e10 e11 e12 e13 e14 e15
            clear hg4
            have := Later.some w4
            have q2 : ∀ s : Later w4, s.u.cell? ⟨b0, 2, none⟩ = some (.slice (some ⟨bl, off, none⟩) gs.length cc) := fun s => HC.out _ (g4.trans s.fr)
            have qk : ∀ s : Later w4, s.u.cell? ⟨b0 + 1, 0, none⟩ = some (.int .i64 ko) := fun s => (HK.out _ (g4.trans s.fr)).1
            have qd : ∀ s : Later w4, s.u.cell? ⟨bl, off + k * 5, none⟩ = some (.int .i64 yo) := fun s => (HD.out _ (g4.trans s.fr)).1
            refine wp_region_grown (by kernel_rfl) (by kernel_rfl) ?_
            repeat (go_big_quiet_step (fail))
            refine wpQuiet_nil ?_
            rintro _ ⟨s2, rfl⟩
            clear q2 qk qd
            go_wp2_with fail
            go_roundw
            case rel => exact ⟨k + 1, _, _, by omega, by go_num, rfl, HN, by first | omega | (simp; omega), hv4.fr s2.fr, g4.trans s2.fr⟩
            case measure => simp [intOf]; omega
          · have h3 : yo < ko := by omega
            have HN : Hid (setP Ch.o ⟨ko, kcap, ksent, kgot, kcl⟩ false (gs.take (k + 1)) = (ys ++ [⟨yo, ycap, ysent, ygot, ycl⟩], false)) := by
              show setP Ch.o ⟨ko, kcap, ksent, kgot, kcl⟩ false (gs.take (k + 1)) = (ys ++ [⟨yo, ycap, ysent, ygot, ycl⟩], false)
              rw [HS.out]; exact setS_on h3
            clear HS
            have e2 : (yo == ko) = false := beq_eq_false_iff_ne.2 (by omega)
            clear h1 h2
            have := Later.some wr
            have q2 : ∀ s : Later wr, s.u.cell? ⟨b0, 2, none⟩ = some (.slice (some ⟨bl, off, none⟩) gs.length cc) := fun s => HC.out _ (hf.trans s.fr)
            have qk : ∀ s : Later wr, s.u.cell? ⟨b0 + 1, 0, none⟩ = some (.int .i64 ko) := fun s => (HK.out _ (hf.trans s.fr)).1
            have qd : ∀ s : Later wr, s.u.cell? ⟨bl, off + k * 5, none⟩ = some (.int .i64 yo) := fun s => (HD.out _ (hf.trans s.fr)).1
            refine wp_region_grown (by kernel_rfl) (by kernel_rfl) ?_
            repeat (go_big_quiet_step (fail))
            refine wpQuiet_nil ?_
            rintro _ ⟨s1, rfl⟩
            clear q2 qk qd
            go_wp2_with fail
            have := Later.some s1.u
            have q2 : ∀ s : Later s1.u, s.u.cell? ⟨b0, 2, none⟩ = some (.slice (some ⟨bl, off, none⟩) gs.length cc) := fun s => HC.out _ ((hf.trans s1.fr).trans s.fr)
            have qk : ∀ s : Later s1.u, s.u.cell? ⟨b0 + 1, 0, none⟩ = some (.int .i64 ko) := fun s => (HK.out _ ((hf.trans s1.fr).trans s.fr)).1
            have qd : ∀ s : Later s1.u, s.u.cell? ⟨bl, off + k * 5, none⟩ = some (.int .i64 yo) := fun s => (HD.out _ ((hf.trans s1.fr).trans s.fr)).1
            refine wp_region_grown (by kernel_rfl) (by kernel_rfl) ?_
            repeat (go_big_quiet_step (fail))
            refine wpQuiet_nil ?_
            rintro _ ⟨s2, rfl⟩
            clear q2 qk qd
            have f2 := (hf.trans s1.fr).trans s2.fr
            have z2 := f2.size
            obtain ⟨c20, c21, c22, c23, c24⟩ := HK.out _ f2
            obtain ⟨e20, e21, e22, e23, e24⟩ := HD.out _ f2
            have e25 := HC.out _ f2
            have o2 := (hown.fr s1.fr).fr s2.fr
            go_wp2_with (at_builtin; refine appC _ rfl _ _ rfl W.heap.size u5 ys ⟨yo, ycap, ysent, ygot, ycl⟩ rfl o2 rfl (by first | omega | (simp; omega)) z2 ?_; intro v6 w6 hv6 hg6)
            have g6 := (f2.trans (Fr.alloc _ _)).then hg6 o2.blk
            clear c20 c21 c22 c23 c24 e20 e21 e22 e23 e24 e25
            clear hg6
            go_roundw
            case rel => exact ⟨k + 1, _, _, by omega, by go_num, rfl, HN, by first | omega | (simp; omega), hv6, g6⟩
            case measure => simp [intOf]; omega
      · cases e2 : (yo == ko)
        · have HN : Hid (setP Ch.o ⟨ko, kcap, ksent, kgot, kcl⟩ false (gs.take (k + 1)) = (ys ++ [⟨yo, ycap, ysent, ygot, ycl⟩], true)) := by
            show setP Ch.o ⟨ko, kcap, ksent, kgot, kcl⟩ false (gs.take (k + 1)) = (ys ++ [⟨yo, ycap, ysent, ygot, ycl⟩], true)
            rw [HS.out]; exact setS_go (beq_eq_false_iff_ne.1 e2)
          clear HS
          have := Later.some wr
          have q2 : ∀ s : Later wr, s.u.cell? ⟨b0, 2, none⟩ = some (.slice (some ⟨bl, off, none⟩) gs.length cc) := fun s => HC.out _ (hf.trans s.fr)
          have qk : ∀ s : Later wr, s.u.cell? ⟨b0 + 1, 0, none⟩ = some (.int .i64 ko) := fun s => (HK.out _ (hf.trans s.fr)).1
          have qd : ∀ s : Later wr, s.u.cell? ⟨bl, off + k * 5, none⟩ = some (.int .i64 yo) := fun s => (HD.out _ (hf.trans s.fr)).1
          refine wp_region_grown (by kernel_rfl) (by kernel_rfl) ?_
          repeat (go_big_quiet_step (fail))
          refine wpQuiet_nil ?_
          rintro _ ⟨s1, rfl⟩
          clear q2 qk qd
          go_wp2_with fail
          have := Later.some s1.u
          have q2 : ∀ s : Later s1.u, s.u.cell? ⟨b0, 2, none⟩ = some (.slice (some ⟨bl, off, none⟩) gs.length cc) := fun s => HC.out _ ((hf.trans s1.fr).trans s.fr)
          have qk : ∀ s : Later s1.u, s.u.cell? ⟨b0 + 1, 0, none⟩ = some (.int .i64 ko) := fun s => (HK.out _ ((hf.trans s1.fr).trans s.fr)).1
          have qd : ∀ s : Later s1.u, s.u.cell? ⟨bl, off + k * 5, none⟩ = some (.int .i64 yo) := fun s => (HD.out _ ((hf.trans s1.fr).trans s.fr)).1
          refine wp_region_grown (by kernel_rfl) (by kernel_rfl) ?_
          repeat (go_big_quiet_step (fail))
          refine wpQuiet_nil ?_
          rintro _ ⟨s2, rfl⟩
          clear q2 qk qd
          have f2 := (hf.trans s1.fr).trans s2.fr
          have z2 := f2.size
          obtain ⟨c20, c21, c22, c23, c24⟩ := HK.out _ f2
          obtain ⟨e20, e21, e22, e23, e24⟩ := HD.out _ f2
          have e25 := HC.out _ f2
          have o2 := (hown.fr s1.fr).fr s2.fr
          go_wp2_with (at_builtin; refine appC _ rfl _ _ rfl W.heap.size u5 ys ⟨yo, ycap, ysent, ygot, ycl⟩ rfl o2 rfl (by first | omega | (simp; omega)) z2 ?_; intro v6 w6 hv6 hg6)
          have g6 := (f2.trans (Fr.alloc _ _)).then hg6 o2.blk
          clear c20 c21 c22 c23 c24 e20 e21 e22 e23 e24 e25
          clear hg6
          go_roundw
          case rel => exact ⟨k + 1, _, _, by omega, by go_num, rfl, HN, by first | omega | (simp; omega), hv6, g6⟩
          case measure => simp [intOf]; omega
        · have HN : Hid (setP Ch.o ⟨ko, kcap, ksent, kgot, kcl⟩ false (gs.take (k + 1)) = (ys, true)) := by
            show setP Ch.o ⟨ko, kcap, ksent, kgot, kcl⟩ false (gs.take (k + 1)) = (ys, true)
            rw [HS.out]; exact setS_by (beq_iff_eq.1 e2)
          clear HS
          have := Later.some wr
          have q2 : ∀ s : Later wr, s.u.cell? ⟨b0, 2, none⟩ = some (.slice (some ⟨bl, off, none⟩) gs.length cc) := fun s => HC.out _ (hf.trans s.fr)
          have qk : ∀ s : Later wr, s.u.cell? ⟨b0 + 1, 0, none⟩ = some (.int .i64 ko) := fun s => (HK.out _ (hf.trans s.fr)).1
          have qd : ∀ s : Later wr, s.u.cell? ⟨bl, off + k * 5, none⟩ = some (.int .i64 yo) := fun s => (HD.out _ (hf.trans s.fr)).1
          refine wp_region_grown (by kernel_rfl) (by kernel_rfl) ?_
          repeat (go_big_quiet_step (fail))
          refine wpQuiet_nil ?_
          rintro _ ⟨s1, rfl⟩
          clear q2 qk qd
          go_wp2_with fail
          have := Later.some s1.u
          have q2 : ∀ s : Later s1.u, s.u.cell? ⟨b0, 2, none⟩ = some (.slice (some ⟨bl, off, none⟩) gs.length cc) := fun s => HC.out _ ((hf.trans s1.fr).trans s.fr)
          have qk : ∀ s : Later s1.u, s.u.cell? ⟨b0 + 1, 0, none⟩ = some (.int .i64 ko) := fun s => (HK.out _ ((hf.trans s1.fr).trans s.fr)).1
          have qd : ∀ s : Later s1.u, s.u.cell? ⟨bl, off + k * 5, none⟩ = some (.int .i64 yo) := fun s => (HD.out _ ((hf.trans s1.fr).trans s.fr)).1
          refine wp_region_grown (by kernel_rfl) (by kernel_rfl) ?_
          repeat (go_big_quiet_step (fail))
          refine wpQuiet_nil ?_
          rintro _ ⟨s2, rfl⟩
          clear q2 qk qd
          go_wp2_with fail
          go_roundw
          case rel => exact ⟨k + 1, _, _, by omega, by go_num, rfl, HN, by first | omega | (simp; omega), (hown.fr s1.fr).fr s2.fr, (hf.trans s1.fr).trans s2.fr⟩
          case measure => simp [intOf]; omega
    · have et : k = gs.length := by omega
      subst et
      rw [List.take_length] at HP
      cases b
      · have HN : Hid ((setCh m ⟨ko, kcap, ksent, kgot, kcl⟩).cs = ys ++ [⟨ko, kcap, ksent, kgot, kcl⟩]) := by
          show setL Ch.o ⟨ko, kcap, ksent, kgot, kcl⟩ false m.cs = ys ++ [⟨ko, kcap, ksent, kgot, kcl⟩]
          rw [HG.out]; exact setL_end HP.out
        clear HP
        obtain ⟨e0, e1, e2, e3, e4⟩ := HK.out _ hf
        go_wp2_with (at_builtin; refine appC _ rfl _ _ rfl W.heap.size u5 ys ⟨ko, kcap, ksent, kgot, kcl⟩ rfl hown rfl (by omega) hs ?_; intro v1 w4 hv1 hg1; have f4 := (hf.trans (Fr.alloc _ _)).then hg1 hbk; obtain ⟨gg, cg, rfl, hw, hwl⟩ := hv1; obtain ⟨i0, i1, i2, i3, i4⟩ := (k1.fr f4).at; obtain ⟨j0, j1, j2, j3, j4⟩ := (k2.fr f4).at; have v0 := (k1.fr f4).free 2; have v1 := fun i => (k2.fr f4).free i; simp only at i0 i1 i2 i3 i4 j0 j1 j2 j3 j4; clear hg1 c2 e0 e1 e2 e3 e4)
        refine bodyPost_ret (v := .agg #[.int .i64 g, .slice lo ll lc, .slice (some ⟨gg, 0, none⟩) (ys.length + 1) cg, .slice no nl nc, .slice oo ol oc]) (by simp [results, Tryz.results168, go_sem, j0, j1, j2, j3, j4]) rfl ⟨⟨g, lo, ll, lc, some ⟨gg, 0, none⟩, (ys.length + 1), cg, no, nl, nc, oo, ol, oc⟩, rfl, ?_, ?_, ?_⟩
        · have hF := set_fin (i := 2) (x := .slice (some ⟨gg, 0, none⟩) (ys.length + 1) cg) (v0 := .int .i64 g) (v1 := .slice lo ll lc) (v2 := .slice (some ⟨gg, 0, none⟩) (ys.length + 1) cg) (v3 := .slice no nl nc) (v4 := .slice oo ol oc) fW f4 (Nat.le_of_eq HB.out.symm) (rb := b0 + 1 + 1) (by have := HB.out; omega) (by have := HZ.out; omega) (by have := HZ.out; omega) ⟨gg, cg, rfl, hw, hwl⟩
          have ha := hF.2.at
          exact ScR.chans (HR.out.mono Grew.old) hF.1 (.inr ⟨by have := HZ.out; have := HB.out; have := ha.2.2; omega, hF.2.lt _ rfl⟩) hK (by rw [HG.out]; exact hl) (by rw [HN.out]; exact ha.1) (by rw [HN.out]; simp)
        · exact (set_fin fW f4 (Nat.le_of_eq HB.out.symm) (rb := b0 + 1 + 1) (by have := HB.out; omega) (by have := HZ.out; omega) (by have := HZ.out; omega) ⟨gg, cg, rfl, hw, hwl⟩).1
        · intro hO
          have hF := set_fin (i := 2) (x := .slice (some ⟨gg, 0, none⟩) (ys.length + 1) cg) (v0 := .int .i64 g) (v1 := .slice lo ll lc) (v2 := .slice (some ⟨gg, 0, none⟩) (ys.length + 1) cg) (v3 := .slice no nl nc) (v4 := .slice oo ol oc) fW f4 (Nat.le_of_eq HB.out.symm) (rb := b0 + 1 + 1) (by have := HB.out; omega) (by have := HZ.out; omega) (by have := HZ.out; omega) ⟨gg, cg, rfl, hw, hwl⟩
          have q := hF.2
          rw [List.length_append, List.length_singleton] at q
          exact hO.chans hF.1 q
      · have HN : Hid ((setCh m ⟨ko, kcap, ksent, kgot, kcl⟩).cs = ys) := by
          show setL Ch.o ⟨ko, kcap, ksent, kgot, kcl⟩ false m.cs = ys
          rw [HG.out]; exact setL_in HP.out
        clear HP
        obtain ⟨gg, cg, rfl, hw, hwl⟩ := hown
        obtain ⟨i0, i1, i2, i3, i4⟩ := (k1.fr hf).at
        obtain ⟨j0, j1, j2, j3, j4⟩ := (k2.fr hf).at
        have v0 := (k1.fr hf).free 2
        have v1 := fun i => (k2.fr hf).free i
        simp only at i0 i1 i2 i3 i4 j0 j1 j2 j3 j4
        clear c2
        go_wp2_with fail
        refine bodyPost_ret (v := .agg #[.int .i64 g, .slice lo ll lc, .slice (some ⟨gg, 0, none⟩) ys.length cg, .slice no nl nc, .slice oo ol oc]) (by simp [results, Tryz.results168, go_sem, j0, j1, j2, j3, j4]) rfl ⟨⟨g, lo, ll, lc, some ⟨gg, 0, none⟩, ys.length, cg, no, nl, nc, oo, ol, oc⟩, rfl, ?_, ?_, ?_⟩
        · have hF := set_fin (i := 2) (x := .slice (some ⟨gg, 0, none⟩) ys.length cg) (v0 := .int .i64 g) (v1 := .slice lo ll lc) (v2 := .slice (some ⟨gg, 0, none⟩) ys.length cg) (v3 := .slice no nl nc) (v4 := .slice oo ol oc) fW hf (Nat.le_of_eq HB.out.symm) (rb := b0 + 1 + 1) (by have := HB.out; omega) (by have := HZ.out; omega) (by have := HZ.out; omega) ⟨gg, cg, rfl, hw, hwl⟩
          have ha := hF.2.at
          exact ScR.chans (HR.out.mono Grew.old) hF.1 (.inr ⟨by have := HZ.out; have := HB.out; have := ha.2.2; omega, hF.2.lt _ rfl⟩) hK (by rw [HG.out]; exact hl) (by rw [HN.out]; exact ha.1) (by rw [HN.out])
        · exact (set_fin fW hf (Nat.le_of_eq HB.out.symm) (rb := b0 + 1 + 1) (by have := HB.out; omega) (by have := HZ.out; omega) (by have := HZ.out; omega) ⟨gg, cg, rfl, hw, hwl⟩).1
        · intro hO
          have hF := set_fin (i := 2) (x := .slice (some ⟨gg, 0, none⟩) ys.length cg) (v0 := .int .i64 g) (v1 := .slice lo ll lc) (v2 := .slice (some ⟨gg, 0, none⟩) ys.length cg) (v3 := .slice no nl nc) (v4 := .slice oo ol oc) fW hf (Nat.le_of_eq HB.out.symm) (rb := b0 + 1 + 1) (by have := HB.out; omega) (by have := HZ.out; omega) (by have := HZ.out; omega) ⟨gg, cg, rfl, hw, hwl⟩
          exact hO.chans hF.1 hF.2
end Go.Proofs.YtcofhmikdkkigaaGreatDoor
namespace Go.Proofs.YtcofhmikdkkigaaGreatDoor
open Go.RowKit

set_option maxRecDepth 20000 in
set_option maxHeartbeats 4000000 in
theorem l4SetLock_own {B : Nat → Prop} (s : Sv) (m : Scn) (kv : Lv) (kk : Lk) (w : World) (hl : m.ls.length ≤ 1000) (hK : LkR B w kv kk) (h : ScR B w s m) :
    Calls Tryz.prog 165 #[.agg #[.int .i64 s.g, .slice s.lo s.ll s.lc, .slice s.co s.cl s.cc, .slice s.no s.nl s.nc, .slice s.oo s.ol s.oc], .agg #[.int .i64 kv.o, .int .i64 kv.wr, .slice kv.ro kv.rn kv.rc]] w fun e w' => ∃ s' : Sv, e = .returned (.agg #[.int .i64 s'.g, .slice s'.lo s'.ll s'.lc, .slice s'.co s'.cl s'.cc, .slice s'.no s'.nl s'.nc, .slice s'.oo s'.ol s'.oc]) ∧ ScR (Grew B w w') w' s' (setLk m kk) ∧ Fr w w' ∧ (OwR w s → InB (RdB w s.oo) kv.ro → OwR w' s') := by
  obtain ⟨lvs, hr, hN, hL⟩ := h.lks
  obtain ⟨B2, hB2⟩ : ∃ B2 : Nat → Prop, B2 = fun b => B b ∧ (OwR w s → InB (RdB w s.oo) kv.ro → RdB w s.oo b) := ⟨_, rfl⟩
  have HB2 : Hid (∀ b, B2 b → B b) := fun b q => by rw [hB2] at q; exact q.1
  have HO2 : Hid (∀ b, B2 b → OwR w s → InB (RdB w s.oo) kv.ro → RdB w s.oo b) := fun b q => by rw [hB2] at q; exact q.2
  have hL : LksR B2 w lvs m.ls := ⟨hL.len, fun j h1 h2 => { hL.at_ j h1 h2 with bl := fun b hb => by rw [hB2]; exact ⟨(hL.at_ j h1 h2).bl b hb, fun q _ => q.rd hr hN _ (List.getElem_mem h1) b hb⟩ }⟩
  have hK : LkR B2 w kv kk := { hK with bl := fun b hb => by rw [hB2]; exact ⟨hK.bl b hb, fun _ q => q b hb⟩ }
  clear hB2
  have HR : Hid (ScR B w s m) := h
  clear h
  obtain ⟨g, lo, ll, lc, co, cl, cc, no, nl, nc, oo, ol, oc⟩ := s
  obtain ⟨ko, kwr, kro, krn, krc⟩ := kv
  simp only at hr hN ⊢
  obtain ⟨ls, hls⟩ : ∃ ls, ls = m.ls := ⟨_, rfl⟩
  have HG : Hid (m.ls = ls) := hls.symm
  rw [← hls] at hL hl
  subst hN
  clear hls
  have HL : Hid (lvs.length = ls.length) := hL.len
  have hl : lvs.length ≤ 1000 := by rw [HL.out]; exact hl
  have HKo : Hid (ko = kk.o) := hK.o
  have HKw : Hid (kwr = kk.wr) := hK.wr
  have HKr : Hid (krn = kk.rd.length) := hK.rn
  go_enter Tryz.func165, Tryz.ntmps165
  go_upto_region 2 with fail
  obtain ⟨W, hW⟩ : ∃ W, W = ((w.alloc (.cells #[.int .i64 g, .slice lo lvs.length lc, .slice co cl cc, .slice no nl nc, .slice oo ol oc] 29)).alloc (.cells #[.int .i64 ko, .int .i64 kwr, .slice kro krn krc] 86)).alloc (.cells #[.int .i64 0, .slice none 0 0, .slice none 0 0, .slice none 0 0, .slice none 0 0] 29) := ⟨_, rfl⟩
  obtain ⟨k1, k2, fW, hz, f3⟩ := box3 w ⟨g, lo, lvs.length, lc, co, cl, cc, no, nl, nc, oo, ol, oc⟩ (.cells #[.int .i64 ko, .int .i64 kwr, .slice kro krn krc] 86)
  have kc := lock_cells_fr (k := ⟨ko, kwr, kro, krn, krc⟩) (off := 0) (lvB_new (w.alloc (.cells #[.int .i64 g, .slice lo lvs.length lc, .slice co cl cc, .slice no nl nc, .slice oo ol oc] 29)) ⟨ko, kwr, kro, krn, krc⟩) f3
  simp only [Nat.zero_add, World.size_alloc] at k1 k2 kc
  rw [← hW] at k1 k2 kc fW hz ⊢
  obtain ⟨b0, hbb⟩ : ∃ b0, b0 = w.heap.size := ⟨_, rfl⟩
  rw [← hbb] at k1 k2 kc hz ⊢
  have HB : Hid (b0 = w.heap.size) := hbb
  have HZ : Hid (W.heap.size = b0 + 3) := hz
  have k2 : ScK W (b0 + 1 + 1) ⟨0, none, 0, 0, none, 0, 0, none, 0, 0, none, 0, 0⟩ := k2
  have HK : Hid (∀ u, Fr W u → u.cell? ⟨b0 + 1, 0, none⟩ = some (.int .i64 ko) ∧ u.cell? ⟨b0 + 1, 1, none⟩ = some (.int .i64 kwr) ∧ u.cell? ⟨b0 + 1, 2, none⟩ = some (.slice kro krn krc)) := fun u f => ⟨f.cell kc.1, f.cell kc.2.1, f.cell kc.2.2⟩
  have HC : Hid (∀ u, Fr W u → u.cell? ⟨b0, 1, none⟩ = some (.slice lo lvs.length lc)) := fun u f => (k1.fr f).at.c1
  have HW : Hid (b0 + 1 + 1 + 1 = W.heap.size) := hz.symm
  clear hW hbb f3 hz kc
  obtain ⟨P, hP⟩ : ∃ P, P = lkFree kk := ⟨_, rfl⟩
  have HP : Hid (lkFree kk = P) := hP.symm
  clear hP
  go_cut [6] (fun s6 wx => s6 = .bool P ∧ wx = W.alloc (.cells #[] 86))
  case first =>
    have hsz := hK.sz
    obtain ⟨q0, q1, q2⟩ := HK.out _ (Fr.alloc W (.cells #[] 86))
    by_cases h1 : kwr < 0
    · by_cases h2 : krn = 0
      · subst h2
        have HT : Hid (P = true) := by
          show P = true
          rw [← HP.out]
          exact lkFree_yes (by have := HKw.out; omega) (by have := HKr.out; omega)
        go_wp2_with fail
        go_meet
        case rel => exact ⟨by rw [HT.out], rfl⟩
      · have h3 : ((krn : Int) == 0) = false := beq_eq_false_iff_ne.2 (by omega)
        have HT : Hid (P = false) := by
          show P = false
          rw [← HP.out]
          exact lkFree_rd (by have := HKr.out; omega)
        have h4 : krn ≤ 1048576 := by have := HKr.out; omega
        clear h2
        go_wp2_with fail
        go_meet
        case rel => exact ⟨by rw [HT.out], rfl⟩
    · have h2 : 0 ≤ kwr := by omega
      have HT : Hid (P = false) := by
        show P = false
        rw [← HP.out]
        exact lkFree_wr (by have := HKw.out; omega)
      clear h1
      go_wp2_with fail
      go_meet
      case rel => exact ⟨by rw [HT.out], rfl⟩
  case rest =>
    obtain ⟨rfl, rfl⟩ := hcut
    go_wp2_with fail
    go_loopw [5, 6, 7] (fun u q i wr => ∃ (k : Nat) (zs : List Lv) (ys : List Lk) (b : Bool), k ≤ lvs.length ∧ i = .int .i64 k ∧ q = .bool b ∧ Hid (setP Lk.o kk P (ls.take k) = (ys, b)) ∧ LksR B2 w zs ys ∧ zs.length ≤ 2 * k ∧ OwnG layL wr W.heap.size u zs ∧ Fr W wr) (fun _ _ i _ => lvs.length - (intOf i).toNat)
    case atStart => exact ⟨0, [], [], _, Nat.zero_le _, rfl, rfl, rfl, LksR.nil _ _, by simp, by rw [HW.out]; exact ownG_new layL W _ (Nat.le_refl _), Fr.alloc W _⟩
    case round =>
      obtain ⟨k, zs, ys, b, hk, rfl, rfl, HQ, hLR, hyl, hown, hf⟩ := hrel
      have HLR : Hid (LksR B2 w zs ys) := hLR
      clear hLR
      have hs := hf.size
      have hbk := hown.blk
      have c1 := HC.out _ hf
      by_cases hlt : k < lvs.length
      · have hk2 : k < ls.length := by rw [← HL.out]; exact hlt
        obtain ⟨bl, off, rfl, d0, d1, d2⟩ := lv_at (hr.fr fW) k hlt
        have HS : Hid (setP Lk.o kk P (ls.take (k + 1)) = setS Lk.o kk (ys, b) ls[k]) := by
          show setP Lk.o kk P (ls.take (k + 1)) = setS Lk.o kk (ys, b) ls[k]
          rw [setP_step Lk.o _ _ ls k hk2, HQ.out]
        have hYR := hL.at_ k hlt hk2
        obtain ⟨y, hy⟩ : ∃ y, y = lvs[k] := ⟨_, rfl⟩
        obtain ⟨yl, hyl2⟩ : ∃ yl, yl = ls[k] := ⟨_, rfl⟩
        simp only [← hy] at d0 d1 d2
        rw [← hy, ← hyl2] at hYR
        rw [← hyl2] at HS
        clear hy hyl2 HQ hk2
        have HY : Hid (y.o = yl.o) := hYR.o
        have HYR : Hid (LkR B2 w y yl) := hYR
        clear hYR
        obtain ⟨yo, ywr, yro, yrn, yrc⟩ := y
        simp only at d0 d1 d2
        have HD : Hid (∀ u, Fr W u → u.cell? ⟨bl, off + k * 3, none⟩ = some (.int .i64 yo) ∧ u.cell? ⟨bl, off + k * 3 + 1, none⟩ = some (.int .i64 ywr) ∧ u.cell? ⟨bl, off + k * 3 + 2, none⟩ = some (.slice yro yrn yrc)) := fun u f => ⟨f.cell d0, f.cell d1, f.cell d2⟩
        clear d0 d1 d2
        go_wp2_with fail
        clear c1
        cases b
        · by_cases h1 : ko < yo
          · have HN : Hid (setP Lk.o kk P (ls.take (k + 1)) = (ys ++ [kk] ++ [yl], true)) := by
              show setP Lk.o kk P (ls.take (k + 1)) = (ys ++ [kk] ++ [yl], true)
              rw [HS.out]; exact setS_in (by have := HKo.out; have := HY.out; omega)
            clear HS
            have HLN : Hid (LksR B2 w (zs ++ [⟨ko, kwr, kro, krn, krc⟩] ++ [⟨yo, ywr, yro, yrn, yrc⟩]) (ys ++ [kk] ++ [yl])) := LksR.snoc (LksR.snoc HLR.out hK) HYR.out
            have e2 : (yo == ko) = false := beq_eq_false_iff_ne.2 (by omega)
            have := Later.some wr
            have q2 : ∀ s : Later wr, s.u.cell? ⟨b0, 1, none⟩ = some (.slice (some ⟨bl, off, none⟩) lvs.length lc) := fun s => HC.out _ (hf.trans s.fr)
            have qk : ∀ s : Later wr, s.u.cell? ⟨b0 + 1, 0, none⟩ = some (.int .i64 ko) := fun s => (HK.out _ (hf.trans s.fr)).1
            have qd : ∀ s : Later wr, s.u.cell? ⟨bl, off + k * 3, none⟩ = some (.int .i64 yo) := fun s => (HD.out _ (hf.trans s.fr)).1
            refine wp_region_grown (by kernel_rfl) (by kernel_rfl) ?_
            repeat (go_big_quiet_step (fail))
            refine wpQuiet_nil ?_
            rintro _ ⟨s1, rfl⟩
            clear q2 qk qd
            have f1 := hf.trans s1.fr
            have z1 := f1.size
            obtain ⟨c10, c11, c12⟩ := HK.out _ f1
            obtain ⟨e10, e11, e12⟩ := HD.out _ f1
            have e15 := HC.out _ f1
            have o1 := hown.fr s1.fr
            go_wp2_with (at_builtin; refine appL _ rfl _ _ rfl W.heap.size u5 zs ⟨ko, kwr, kro, krn, krc⟩ rfl o1 rfl (by first | omega | (simp; omega)) z1 ?_; intro v4 w4 hv4 hg4)
            have g4 := (f1.trans (Fr.alloc _ _)).then hg4 o1.blk
            clear c10 c11 c12 e10 e11 e12 e15
            clear hg4
            have := Later.some w4
            have q2 : ∀ s : Later w4, s.u.cell? ⟨b0, 1, none⟩ = some (.slice (some ⟨bl, off, none⟩) lvs.length lc) := fun s => HC.out _ (g4.trans s.fr)
            have qk : ∀ s : Later w4, s.u.cell? ⟨b0 + 1, 0, none⟩ = some (.int .i64 ko) := fun s => (HK.out _ (g4.trans s.fr)).1
            have qd : ∀ s : Later w4, s.u.cell? ⟨bl, off + k * 3, none⟩ = some (.int .i64 yo) := fun s => (HD.out _ (g4.trans s.fr)).1
            refine wp_region_grown (by kernel_rfl) (by kernel_rfl) ?_
            repeat (go_big_quiet_step (fail))
            refine wpQuiet_nil ?_
            rintro _ ⟨s2, rfl⟩
            clear q2 qk qd
            have f2 := g4.trans s2.fr
            have z2 := f2.size
            obtain ⟨c20, c21, c22⟩ := HK.out _ f2
            obtain ⟨e20, e21, e22⟩ := HD.out _ f2
            have e25 := HC.out _ f2
            have o2 := hv4.fr s2.fr
            go_wp2_with (at_builtin; refine appL _ rfl _ _ rfl W.heap.size v4 (zs ++ [⟨ko, kwr, kro, krn, krc⟩]) ⟨yo, ywr, yro, yrn, yrc⟩ rfl o2 rfl (by first | omega | (simp; omega)) z2 ?_; intro v6 w6 hv6 hg6)
            have g6 := (f2.trans (Fr.alloc _ _)).then hg6 o2.blk
            clear c20 c21 c22 e20 e21 e22 e25
            clear hg6
            go_roundw
            case rel => exact ⟨k + 1, _, _, _, by omega, by go_num, rfl, HN, HLN.out, by first | omega | (simp; omega), hv6, g6⟩
            case measure => simp [intOf]; omega
          · by_cases h2 : yo = ko
            · have HN : Hid (setP Lk.o kk P (ls.take (k + 1)) = (ys ++ [kk], true)) := by
                show setP Lk.o kk P (ls.take (k + 1)) = (ys ++ [kk], true)
                rw [HS.out]; exact setS_at (by have := HKo.out; have := HY.out; omega)
              clear HS
              have HLN : Hid (LksR B2 w (zs ++ [⟨ko, kwr, kro, krn, krc⟩]) (ys ++ [kk])) := LksR.snoc HLR.out hK
              have e2 : (yo == ko) = true := beq_iff_eq.2 h2
              have h1' : yo ≤ ko := by omega
              clear h1 h2
              have := Later.some wr
              have q2 : ∀ s : Later wr, s.u.cell? ⟨b0, 1, none⟩ = some (.slice (some ⟨bl, off, none⟩) lvs.length lc) := fun s => HC.out _ (hf.trans s.fr)
              have qk : ∀ s : Later wr, s.u.cell? ⟨b0 + 1, 0, none⟩ = some (.int .i64 ko) := fun s => (HK.out _ (hf.trans s.fr)).1
              have qd : ∀ s : Later wr, s.u.cell? ⟨bl, off + k * 3, none⟩ = some (.int .i64 yo) := fun s => (HD.out _ (hf.trans s.fr)).1
              refine wp_region_grown (by kernel_rfl) (by kernel_rfl) ?_
              repeat (go_big_quiet_step (fail))
              refine wpQuiet_nil ?_
              rintro _ ⟨s1, rfl⟩
              clear q2 qk qd
              go_wp2_with fail
              have := Later.some s1.u
              have q2 : ∀ s : Later s1.u, s.u.cell? ⟨b0, 1, none⟩ = some (.slice (some ⟨bl, off, none⟩) lvs.length lc) := fun s => HC.out _ ((hf.trans s1.fr).trans s.fr)
              have qk : ∀ s : Later s1.u, s.u.cell? ⟨b0 + 1, 0, none⟩ = some (.int .i64 ko) := fun s => (HK.out _ ((hf.trans s1.fr).trans s.fr)).1
              have qd : ∀ s : Later s1.u, s.u.cell? ⟨bl, off + k * 3, none⟩ = some (.int .i64 yo) := fun s => (HD.out _ ((hf.trans s1.fr).trans s.fr)).1
              refine wp_region_grown (by kernel_rfl) (by kernel_rfl) ?_
              repeat (go_big_quiet_step (fail))
              refine wpQuiet_nil ?_
              rintro _ ⟨s2, rfl⟩
              clear q2 qk qd
              have f2 := (hf.trans s1.fr).trans s2.fr
              have z2 := f2.size
              obtain ⟨c20, c21, c22⟩ := HK.out _ f2
              obtain ⟨e20, e21, e22⟩ := HD.out _ f2
              have e25 := HC.out _ f2
              have o2 := (hown.fr s1.fr).fr s2.fr
              go_wp2_with (at_builtin; refine appL _ rfl _ _ rfl W.heap.size u5 zs ⟨ko, kwr, kro, krn, krc⟩ rfl o2 rfl (by first | omega | (simp; omega)) z2 ?_; intro v6 w6 hv6 hg6)
              have g6 := (f2.trans (Fr.alloc _ _)).then hg6 o2.blk
              clear c20 c21 c22 e20 e21 e22 e25
              clear hg6
              go_roundw
              case rel => exact ⟨k + 1, _, _, _, by omega, by go_num, rfl, HN, HLN.out, by first | omega | (simp; omega), hv6, g6⟩
              case measure => simp [intOf]; omega
            · have h3 : yo < ko := by omega
              have HN : Hid (setP Lk.o kk P (ls.take (k + 1)) = (ys ++ [yl], false)) := by
                show setP Lk.o kk P (ls.take (k + 1)) = (ys ++ [yl], false)
                rw [HS.out]; exact setS_on (by have := HKo.out; have := HY.out; omega)
              clear HS
              have HLN : Hid (LksR B2 w (zs ++ [⟨yo, ywr, yro, yrn, yrc⟩]) (ys ++ [yl])) := LksR.snoc HLR.out HYR.out
              have e2 : (yo == ko) = false := beq_eq_false_iff_ne.2 (by omega)
              have h1' : yo ≤ ko := by omega
              clear h1 h2
              have := Later.some wr
              have q2 : ∀ s : Later wr, s.u.cell? ⟨b0, 1, none⟩ = some (.slice (some ⟨bl, off, none⟩) lvs.length lc) := fun s => HC.out _ (hf.trans s.fr)
              have qk : ∀ s : Later wr, s.u.cell? ⟨b0 + 1, 0, none⟩ = some (.int .i64 ko) := fun s => (HK.out _ (hf.trans s.fr)).1
              have qd : ∀ s : Later wr, s.u.cell? ⟨bl, off + k * 3, none⟩ = some (.int .i64 yo) := fun s => (HD.out _ (hf.trans s.fr)).1
              refine wp_region_grown (by kernel_rfl) (by kernel_rfl) ?_
              repeat (go_big_quiet_step (fail))
              refine wpQuiet_nil ?_
              rintro _ ⟨s1, rfl⟩
              clear q2 qk qd
              go_wp2_with fail
              have := Later.some s1.u
              have q2 : ∀ s : Later s1.u, s.u.cell? ⟨b0, 1, none⟩ = some (.slice (some ⟨bl, off, none⟩) lvs.length lc) := fun s => HC.out _ ((hf.trans s1.fr).trans s.fr)
              have qk : ∀ s : Later s1.u, s.u.cell? ⟨b0 + 1, 0, none⟩ = some (.int .i64 ko) := fun s => (HK.out _ ((hf.trans s1.fr).trans s.fr)).1
              have qd : ∀ s : Later s1.u, s.u.cell? ⟨bl, off + k * 3, none⟩ = some (.int .i64 yo) := fun s => (HD.out _ ((hf.trans s1.fr).trans s.fr)).1
              refine wp_region_grown (by kernel_rfl) (by kernel_rfl) ?_
              repeat (go_big_quiet_step (fail))
              refine wpQuiet_nil ?_
              rintro _ ⟨s2, rfl⟩
              clear q2 qk qd
              have f2 := (hf.trans s1.fr).trans s2.fr
              have z2 := f2.size
              obtain ⟨c20, c21, c22⟩ := HK.out _ f2
              obtain ⟨e20, e21, e22⟩ := HD.out _ f2
              have e25 := HC.out _ f2
              have o2 := (hown.fr s1.fr).fr s2.fr
              go_wp2_with (at_builtin; refine appL _ rfl _ _ rfl W.heap.size u5 zs ⟨yo, ywr, yro, yrn, yrc⟩ rfl o2 rfl (by first | omega | (simp; omega)) z2 ?_; intro v6 w6 hv6 hg6)
              have g6 := (f2.trans (Fr.alloc _ _)).then hg6 o2.blk
              clear c20 c21 c22 e20 e21 e22 e25
              clear hg6
              go_roundw
              case rel => exact ⟨k + 1, _, _, _, by omega, by go_num, rfl, HN, HLN.out, by first | omega | (simp; omega), hv6, g6⟩
              case measure => simp [intOf]; omega
        · cases e2 : (yo == ko)
          · have HN : Hid (setP Lk.o kk P (ls.take (k + 1)) = (ys ++ [yl], true)) := by
              show setP Lk.o kk P (ls.take (k + 1)) = (ys ++ [yl], true)
              rw [HS.out]; exact setS_go (by have := HKo.out; have := HY.out; have := beq_eq_false_iff_ne.1 e2; omega)
            clear HS
            have HLN : Hid (LksR B2 w (zs ++ [⟨yo, ywr, yro, yrn, yrc⟩]) (ys ++ [yl])) := LksR.snoc HLR.out HYR.out
            have := Later.some wr
            have q2 : ∀ s : Later wr, s.u.cell? ⟨b0, 1, none⟩ = some (.slice (some ⟨bl, off, none⟩) lvs.length lc) := fun s => HC.out _ (hf.trans s.fr)
            have qk : ∀ s : Later wr, s.u.cell? ⟨b0 + 1, 0, none⟩ = some (.int .i64 ko) := fun s => (HK.out _ (hf.trans s.fr)).1
            have qd : ∀ s : Later wr, s.u.cell? ⟨bl, off + k * 3, none⟩ = some (.int .i64 yo) := fun s => (HD.out _ (hf.trans s.fr)).1
            refine wp_region_grown (by kernel_rfl) (by kernel_rfl) ?_
            repeat (go_big_quiet_step (fail))
            refine wpQuiet_nil ?_
            rintro _ ⟨s1, rfl⟩
            clear q2 qk qd
            go_wp2_with fail
            have := Later.some s1.u
            have q2 : ∀ s : Later s1.u, s.u.cell? ⟨b0, 1, none⟩ = some (.slice (some ⟨bl, off, none⟩) lvs.length lc) := fun s => HC.out _ ((hf.trans s1.fr).trans s.fr)
            have qk : ∀ s : Later s1.u, s.u.cell? ⟨b0 + 1, 0, none⟩ = some (.int .i64 ko) := fun s => (HK.out _ ((hf.trans s1.fr).trans s.fr)).1
            have qd : ∀ s : Later s1.u, s.u.cell? ⟨bl, off + k * 3, none⟩ = some (.int .i64 yo) := fun s => (HD.out _ ((hf.trans s1.fr).trans s.fr)).1
            refine wp_region_grown (by kernel_rfl) (by kernel_rfl) ?_
            repeat (go_big_quiet_step (fail))
            refine wpQuiet_nil ?_
            rintro _ ⟨s2, rfl⟩
            clear q2 qk qd
            have f2 := (hf.trans s1.fr).trans s2.fr
            have z2 := f2.size
            obtain ⟨c20, c21, c22⟩ := HK.out _ f2
            obtain ⟨e20, e21, e22⟩ := HD.out _ f2
            have e25 := HC.out _ f2
            have o2 := (hown.fr s1.fr).fr s2.fr
            go_wp2_with (at_builtin; refine appL _ rfl _ _ rfl W.heap.size u5 zs ⟨yo, ywr, yro, yrn, yrc⟩ rfl o2 rfl (by first | omega | (simp; omega)) z2 ?_; intro v6 w6 hv6 hg6)
            have g6 := (f2.trans (Fr.alloc _ _)).then hg6 o2.blk
            clear c20 c21 c22 e20 e21 e22 e25
            clear hg6
            go_roundw
            case rel => exact ⟨k + 1, _, _, _, by omega, by go_num, rfl, HN, HLN.out, by first | omega | (simp; omega), hv6, g6⟩
            case measure => simp [intOf]; omega
          · have HN : Hid (setP Lk.o kk P (ls.take (k + 1)) = (ys, true)) := by
              show setP Lk.o kk P (ls.take (k + 1)) = (ys, true)
              rw [HS.out]; exact setS_by (by have := HKo.out; have := HY.out; have := beq_iff_eq.1 e2; omega)
            clear HS
            have HLN : Hid (LksR B2 w zs (ys)) := HLR.out
            have := Later.some wr
            have q2 : ∀ s : Later wr, s.u.cell? ⟨b0, 1, none⟩ = some (.slice (some ⟨bl, off, none⟩) lvs.length lc) := fun s => HC.out _ (hf.trans s.fr)
            have qk : ∀ s : Later wr, s.u.cell? ⟨b0 + 1, 0, none⟩ = some (.int .i64 ko) := fun s => (HK.out _ (hf.trans s.fr)).1
            have qd : ∀ s : Later wr, s.u.cell? ⟨bl, off + k * 3, none⟩ = some (.int .i64 yo) := fun s => (HD.out _ (hf.trans s.fr)).1
            refine wp_region_grown (by kernel_rfl) (by kernel_rfl) ?_
            repeat (go_big_quiet_step (fail))
            refine wpQuiet_nil ?_
            rintro _ ⟨s1, rfl⟩
            clear q2 qk qd
            go_wp2_with fail
            have := Later.some s1.u
            have q2 : ∀ s : Later s1.u, s.u.cell? ⟨b0, 1, none⟩ = some (.slice (some ⟨bl, off, none⟩) lvs.length lc) := fun s => HC.out _ ((hf.trans s1.fr).trans s.fr)
            have qk : ∀ s : Later s1.u, s.u.cell? ⟨b0 + 1, 0, none⟩ = some (.int .i64 ko) := fun s => (HK.out _ ((hf.trans s1.fr).trans s.fr)).1
            have qd : ∀ s : Later s1.u, s.u.cell? ⟨bl, off + k * 3, none⟩ = some (.int .i64 yo) := fun s => (HD.out _ ((hf.trans s1.fr).trans s.fr)).1
            refine wp_region_grown (by kernel_rfl) (by kernel_rfl) ?_
            repeat (go_big_quiet_step (fail))
            refine wpQuiet_nil ?_
            rintro _ ⟨s2, rfl⟩
            clear q2 qk qd
            go_wp2_with fail
            go_roundw
            case rel => exact ⟨k + 1, _, _, _, by omega, by go_num, rfl, HN, HLN.out, by first | omega | (simp; omega), (hown.fr s1.fr).fr s2.fr, (hf.trans s1.fr).trans s2.fr⟩
            case measure => simp [intOf]; omega
      · have et : k = lvs.length := by omega
        subst et
        rw [HL.out, List.take_length] at HQ
        cases b
        · have HL4 : Hid (LksR B2 w (zs ++ [⟨ko, kwr, kro, krn, krc⟩]) (ys ++ [kk])) := LksR.snoc HLR.out hK
          have HN : Hid ((setLk m kk).ls = ys ++ [kk]) := by
            show setL Lk.o kk (lkFree kk) m.ls = ys ++ [kk]
            rw [HG.out, HP.out]; exact setL_end HQ.out
          clear HQ
          obtain ⟨e0, e1, e2⟩ := HK.out _ hf
          go_wp2_with (at_builtin; refine appL _ rfl _ _ rfl W.heap.size u5 zs ⟨ko, kwr, kro, krn, krc⟩ rfl hown rfl (by omega) hs ?_; intro v1 w4 hv1 hg1; have f4 := (hf.trans (Fr.alloc _ _)).then hg1 hbk; obtain ⟨gg, cg, rfl, hw, hwl⟩ := hv1; obtain ⟨i0, i1, i2, i3, i4⟩ := (k1.fr f4).at; obtain ⟨j0, j1, j2, j3, j4⟩ := (k2.fr f4).at; have v0 := (k1.fr f4).free 1; have v1 := fun i => (k2.fr f4).free i; simp only at i0 i1 i2 i3 i4 j0 j1 j2 j3 j4; clear hg1 c1 e0 e1 e2)
          refine bodyPost_ret (v := .agg #[.int .i64 g, .slice (some ⟨gg, 0, none⟩) (zs.length + 1) cg, .slice co cl cc, .slice no nl nc, .slice oo ol oc]) (by simp [results, Tryz.results165, go_sem, j0, j1, j2, j3, j4]) rfl ⟨⟨g, some ⟨gg, 0, none⟩, (zs.length + 1), cg, co, cl, cc, no, nl, nc, oo, ol, oc⟩, rfl, ?_, ?_, ?_⟩
          · have hF := set_fin (i := 1) (x := .slice (some ⟨gg, 0, none⟩) (zs.length + 1) cg) (v0 := .int .i64 g) (v1 := .slice (some ⟨gg, 0, none⟩) (zs.length + 1) cg) (v2 := .slice co cl cc) (v3 := .slice no nl nc) (v4 := .slice oo ol oc) fW f4 (Nat.le_of_eq HB.out.symm) (rb := b0 + 1 + 1) (by have := HB.out; omega) (by have := HZ.out; omega) (by have := HZ.out; omega) ⟨gg, cg, rfl, hw, hwl⟩
            have ha := hF.2.at
            exact ScR.locks (HR.out.mono Grew.old) hF.1 (.inr ⟨by have := HZ.out; have := HB.out; have := ha.2.2; omega, hF.2.lt _ rfl⟩) (by rw [HG.out, ← HL.out]; exact hl) ha.1 (by simp) (by rw [HN.out]; exact (HL4.out.fr hF.1).mono (fun b q => .inl (HB2.out b q)))
          · exact (set_fin fW f4 (Nat.le_of_eq HB.out.symm) (rb := b0 + 1 + 1) (by have := HB.out; omega) (by have := HZ.out; omega) (by have := HZ.out; omega) ⟨gg, cg, rfl, hw, hwl⟩).1
          · intro hO hQ
            have hF := set_fin (i := 1) (x := .slice (some ⟨gg, 0, none⟩) (zs.length + 1) cg) (v0 := .int .i64 g) (v1 := .slice (some ⟨gg, 0, none⟩) (zs.length + 1) cg) (v2 := .slice co cl cc) (v3 := .slice no nl nc) (v4 := .slice oo ol oc) fW f4 (Nat.le_of_eq HB.out.symm) (rb := b0 + 1 + 1) (by have := HB.out; omega) (by have := HZ.out; omega) (by have := HZ.out; omega) ⟨gg, cg, rfl, hw, hwl⟩
            have q := hF.2
            rw [List.length_append, List.length_singleton] at q
            exact hO.locks hF.1 q (fun z hz b hb => by obtain ⟨j, hj, rfl⟩ := List.mem_iff_getElem.1 hz; exact HO2.out b ((HL4.out.at_ j hj (by rw [← HL4.out.len]; exact hj)).bl b hb) hO hQ)
        · have HN : Hid ((setLk m kk).ls = ys) := by
            show setL Lk.o kk (lkFree kk) m.ls = ys
            rw [HG.out, HP.out]; exact setL_in HQ.out
          clear HQ
          obtain ⟨gg, cg, rfl, hw, hwl⟩ := hown
          obtain ⟨i0, i1, i2, i3, i4⟩ := (k1.fr hf).at
          obtain ⟨j0, j1, j2, j3, j4⟩ := (k2.fr hf).at
          have v0 := (k1.fr hf).free 1
          have v1 := fun i => (k2.fr hf).free i
          simp only at i0 i1 i2 i3 i4 j0 j1 j2 j3 j4
          clear c1
          go_wp2_with fail
          refine bodyPost_ret (v := .agg #[.int .i64 g, .slice (some ⟨gg, 0, none⟩) zs.length cg, .slice co cl cc, .slice no nl nc, .slice oo ol oc]) (by simp [results, Tryz.results165, go_sem, j0, j1, j2, j3, j4]) rfl ⟨⟨g, some ⟨gg, 0, none⟩, zs.length, cg, co, cl, cc, no, nl, nc, oo, ol, oc⟩, rfl, ?_, ?_, ?_⟩
          · have hF := set_fin (i := 1) (x := .slice (some ⟨gg, 0, none⟩) zs.length cg) (v0 := .int .i64 g) (v1 := .slice (some ⟨gg, 0, none⟩) zs.length cg) (v2 := .slice co cl cc) (v3 := .slice no nl nc) (v4 := .slice oo ol oc) fW hf (Nat.le_of_eq HB.out.symm) (rb := b0 + 1 + 1) (by have := HB.out; omega) (by have := HZ.out; omega) (by have := HZ.out; omega) ⟨gg, cg, rfl, hw, hwl⟩
            have ha := hF.2.at
            exact ScR.locks (HR.out.mono Grew.old) hF.1 (.inr ⟨by have := HZ.out; have := HB.out; have := ha.2.2; omega, hF.2.lt _ rfl⟩) (by rw [HG.out, ← HL.out]; exact hl) ha.1 (by rfl) (by rw [HN.out]; exact (HLR.out.fr hF.1).mono (fun b q => .inl (HB2.out b q)))
          · exact (set_fin fW hf (Nat.le_of_eq HB.out.symm) (rb := b0 + 1 + 1) (by have := HB.out; omega) (by have := HZ.out; omega) (by have := HZ.out; omega) ⟨gg, cg, rfl, hw, hwl⟩).1
          · intro hO hQ
            have hF := set_fin (i := 1) (x := .slice (some ⟨gg, 0, none⟩) zs.length cg) (v0 := .int .i64 g) (v1 := .slice (some ⟨gg, 0, none⟩) zs.length cg) (v2 := .slice co cl cc) (v3 := .slice no nl nc) (v4 := .slice oo ol oc) fW hf (Nat.le_of_eq HB.out.symm) (rb := b0 + 1 + 1) (by have := HB.out; omega) (by have := HZ.out; omega) (by have := HZ.out; omega) ⟨gg, cg, rfl, hw, hwl⟩
            exact hO.locks hF.1 hF.2 (fun z hz b hb => by obtain ⟨j, hj, rfl⟩ := List.mem_iff_getElem.1 hz; exact HO2.out b ((HLR.out.at_ j hj (by rw [← HLR.out.len]; exact hj)).bl b hb) hO hQ)
end Go.Proofs.YtcofhmikdkkigaaGreatDoor
