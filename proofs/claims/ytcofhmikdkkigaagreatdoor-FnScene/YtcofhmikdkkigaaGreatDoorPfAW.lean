/-
  Pack AW: ScLkSet.
-/
import Derived.Test.YtcofhmikdkkigaaGreatDoorPfAQ
import Derived.Test.YtcofhmikdkkigaaGreatDoorPfAE
import Derived.Deep.DeepCutAuto
namespace Go.Proofs.YtcofhmikdkkigaaGreatDoor
open Go.RowKit

theorem ScR.locks {B : Nat → Prop} {w w' : World} {s : Sv} {m : Scn} {k : Lk} {c g l : Nat} {zs : List Lv} (h : ScR B w s m) (f : Fr w w') (hB : B g) (hl : m.ls.length ≤ 1000)
    (hr : ReadsG layL w' (some ⟨g, 0, none⟩) zs) (hlen : l = zs.length) (hz : LksR B w' zs (setLk m k).ls) : ScR B w' { s with lo := some ⟨g, 0, none⟩, ll := l, lc := c } (setLk m k) := by
  have h' := h.fr f
  have h2 := setL_len Lk.o k (lkFree k) m.ls
  refine { h' with lks := ⟨zs, hr, hlen, hz⟩, bl := ?_, sl := ?_ }
  · intro b hb
    simp only [blk, Option.map_some, Option.some.injEq] at hb
    subst hb
    exact hB
  · show (setL Lk.o k (lkFree k) m.ls).length ≤ 1048576
    omega
theorem lock_cells_fr {w w' : World} {b off : Nat} {k : Lv} (h : w.cell? ⟨b, off, none⟩ = some (.int .i64 k.o) ∧ w.cell? ⟨b, off + 1, none⟩ = some (.int .i64 k.wr) ∧ w.cell? ⟨b, off + 2, none⟩ = some (.slice k.ro k.rn k.rc)) (f : Fr w w') :
    w'.cell? ⟨b, off, none⟩ = some (.int .i64 k.o) ∧ w'.cell? ⟨b, off + 1, none⟩ = some (.int .i64 k.wr) ∧ w'.cell? ⟨b, off + 2, none⟩ = some (.slice k.ro k.rn k.rc) :=
  ⟨f.cell h.1, f.cell h.2.1, f.cell h.2.2⟩

theorem lkFree_yes {l : Lk} (h1 : l.wr < 0) (h2 : l.rd.length = 0) : lkFree l = true := by
  unfold lkFree; rw [decide_eq_true h1, decide_eq_true h2]; rfl
theorem lkFree_rd {l : Lk} (h2 : l.rd.length ≠ 0) : lkFree l = false := by
  unfold lkFree; rw [decide_eq_false h2, Bool.and_false]
theorem lkFree_wr {l : Lk} (h : 0 ≤ l.wr) : lkFree l = false := by
  unfold lkFree; rw [decide_eq_false (by omega), Bool.false_and]

set_option maxRecDepth 20000 in
set_option maxHeartbeats 4000000 in
theorem l4SetLock_any {B : Nat → Prop} (s : Sv) (m : Scn) (kv : Lv) (kk : Lk) (w : World) (hl : m.ls.length ≤ 1000) (hK : LkR B w kv kk) (h : ScR B w s m) :
    Calls Tryz.prog 165 #[.agg #[.int .i64 s.g, .slice s.lo s.ll s.lc, .slice s.co s.cl s.cc, .slice s.no s.nl s.nc, .slice s.oo s.ol s.oc], .agg #[.int .i64 kv.o, .int .i64 kv.wr, .slice kv.ro kv.rn kv.rc]] w fun e w' => ∃ s' : Sv, e = .returned (.agg #[.int .i64 s'.g, .slice s'.lo s'.ll s'.lc, .slice s'.co s'.cl s'.cc, .slice s'.no s'.nl s'.nc, .slice s'.oo s'.ol s'.oc]) ∧ ScR (Grew B w w') w' s' (setLk m kk) ∧ Fr w w' := by
  obtain ⟨lvs, hr, hN, hL⟩ := h.lks
  have HR : Hid (ScR B w s m) := h
  clear h
  obtain ⟨g, lo, ll, lc, co, cl, cc, no, nl, nc, oo, ol, oc⟩ := s
  obtain ⟨ko, kwr, kro, krn, krc⟩ := kv
  simp only at hr hN ⊢
  obtain ⟨ls, hls⟩ : ∃ ls, ls = m.ls := ⟨_, rfl⟩
  have HG : Hid (m.ls = ls) := hls.symm
  rw [← hls] at hL hl
  subst hN
  clear hls
  have HL : Hid (lvs.length = ls.length) := hL.len
  have hl : lvs.length ≤ 1000 := by rw [HL.out]; exact hl
  have HKo : Hid (ko = kk.o) := hK.o
  have HKw : Hid (kwr = kk.wr) := hK.wr
  have HKr : Hid (krn = kk.rd.length) := hK.rn
  go_enter Tryz.func165, Tryz.ntmps165
  go_upto_region 2 with fail
  obtain ⟨W, hW⟩ : ∃ W, W = ((w.alloc (.cells #[.int .i64 g, .slice lo lvs.length lc, .slice co cl cc, .slice no nl nc, .slice oo ol oc] 29)).alloc (.cells #[.int .i64 ko, .int .i64 kwr, .slice kro krn krc] 86)).alloc (.cells #[.int .i64 0, .slice none 0 0, .slice none 0 0, .slice none 0 0, .slice none 0 0] 29) := ⟨_, rfl⟩
  obtain ⟨k1, k2, fW, hz, f3⟩ := box3 w ⟨g, lo, lvs.length, lc, co, cl, cc, no, nl, nc, oo, ol, oc⟩ (.cells #[.int .i64 ko, .int .i64 kwr, .slice kro krn krc] 86)
  have kc := lock_cells_fr (k := ⟨ko, kwr, kro, krn, krc⟩) (off := 0) (lvB_new (w.alloc (.cells #[.int .i64 g, .slice lo lvs.length lc, .slice co cl cc, .slice no nl nc, .slice oo ol oc] 29)) ⟨ko, kwr, kro, krn, krc⟩) f3
  simp only [Nat.zero_add, World.size_alloc] at k1 k2 kc
  rw [← hW] at k1 k2 kc fW hz ⊢
  obtain ⟨b0, hbb⟩ : ∃ b0, b0 = w.heap.size := ⟨_, rfl⟩
  rw [← hbb] at k1 k2 kc hz ⊢
  have HB : Hid (b0 = w.heap.size) := hbb
  have HZ : Hid (W.heap.size = b0 + 3) := hz
  have k2 : ScK W (b0 + 1 + 1) ⟨0, none, 0, 0, none, 0, 0, none, 0, 0, none, 0, 0⟩ := k2
  have HK : Hid (∀ u, Fr W u → u.cell? ⟨b0 + 1, 0, none⟩ = some (.int .i64 ko) ∧ u.cell? ⟨b0 + 1, 1, none⟩ = some (.int .i64 kwr) ∧ u.cell? ⟨b0 + 1, 2, none⟩ = some (.slice kro krn krc)) := fun u f => ⟨f.cell kc.1, f.cell kc.2.1, f.cell kc.2.2⟩
  have HC : Hid (∀ u, Fr W u → u.cell? ⟨b0, 1, none⟩ = some (.slice lo lvs.length lc)) := fun u f => (k1.fr f).at.c1
  have HW : Hid (b0 + 1 + 1 + 1 = W.heap.size) := hz.symm
  clear hW hbb f3 hz kc
  obtain ⟨P, hP⟩ : ∃ P, P = lkFree kk := ⟨_, rfl⟩
  have HP : Hid (lkFree kk = P) := hP.symm
  clear hP
  go_cut [6] (fun s6 wx => s6 = .bool P ∧ wx = W.alloc (.cells #[] 86))
  case first =>
    have hsz := hK.sz
    obtain ⟨q0, q1, q2⟩ := HK.out _ (Fr.alloc W (.cells #[] 86))
    by_cases h1 : kwr < 0
    · by_cases h2 : krn = 0
      · subst h2
        have HT : Hid (P = true) := by
          show P = true
          rw [← HP.out]
          exact lkFree_yes (by have := HKw.out; omega) (by have := HKr.out; omega)
        go_wp2_with fail
        go_meet
        case rel => exact ⟨by rw [HT.out], rfl⟩
      · have h3 : ((krn : Int) == 0) = false := beq_eq_false_iff_ne.2 (by omega)
        have HT : Hid (P = false) := by
          show P = false
          rw [← HP.out]
          exact lkFree_rd (by have := HKr.out; omega)
        have h4 : krn ≤ 1048576 := by have := HKr.out; omega
        clear h2
        go_wp2_with fail
        go_meet
        case rel => exact ⟨by rw [HT.out], rfl⟩
    · have h2 : 0 ≤ kwr := by omega
      have HT : Hid (P = false) := by
        show P = false
        rw [← HP.out]
        exact lkFree_wr (by have := HKw.out; omega)
      clear h1
      go_wp2_with fail
      go_meet
      case rel => exact ⟨by rw [HT.out], rfl⟩
  case rest =>
    obtain ⟨rfl, rfl⟩ := hcut
    go_wp2_with fail
    go_loopw [5, 6, 7] (fun u q i wr => ∃ (k : Nat) (zs : List Lv) (ys : List Lk) (b : Bool), k ≤ lvs.length ∧ i = .int .i64 k ∧ q = .bool b ∧ Hid (setP Lk.o kk P (ls.take k) = (ys, b)) ∧ LksR B w zs ys ∧ zs.length ≤ 2 * k ∧ OwnG layL wr W.heap.size u zs ∧ Fr W wr) (fun _ _ i _ => lvs.length - (intOf i).toNat)
    case atStart => exact ⟨0, [], [], _, Nat.zero_le _, rfl, rfl, rfl, LksR.nil _ _, by simp, by rw [HW.out]; exact ownG_new layL W _ (Nat.le_refl _), Fr.alloc W _⟩
    case round =>
      obtain ⟨k, zs, ys, b, hk, rfl, rfl, HQ, hLR, hyl, hown, hf⟩ := hrel
      have HLR : Hid (LksR B w zs ys) := hLR
      clear hLR
      have hs := hf.size
      have hbk := hown.blk
      have c1 := HC.out _ hf
      by_cases hlt : k < lvs.length
      · have hk2 : k < ls.length := by rw [← HL.out]; exact hlt
        obtain ⟨bl, off, rfl, d0, d1, d2⟩ := lv_at (hr.fr fW) k hlt
        have HS : Hid (setP Lk.o kk P (ls.take (k + 1)) = setS Lk.o kk (ys, b) ls[k]) := by
          show setP Lk.o kk P (ls.take (k + 1)) = setS Lk.o kk (ys, b) ls[k]
          rw [setP_step Lk.o _ _ ls k hk2, HQ.out]
        have hYR := hL.at_ k hlt hk2
        obtain ⟨y, hy⟩ : ∃ y, y = lvs[k] := ⟨_, rfl⟩
        obtain ⟨yl, hyl2⟩ : ∃ yl, yl = ls[k] := ⟨_, rfl⟩
        simp only [← hy] at d0 d1 d2
        rw [← hy, ← hyl2] at hYR
        rw [← hyl2] at HS
        clear hy hyl2 HQ hk2
        have HY : Hid (y.o = yl.o) := hYR.o
        have HYR : Hid (LkR B w y yl) := hYR
        clear hYR
        obtain ⟨yo, ywr, yro, yrn, yrc⟩ := y
        simp only at d0 d1 d2
        have HD : Hid (∀ u, Fr W u → u.cell? ⟨bl, off + k * 3, none⟩ = some (.int .i64 yo) ∧ u.cell? ⟨bl, off + k * 3 + 1, none⟩ = some (.int .i64 ywr) ∧ u.cell? ⟨bl, off + k * 3 + 2, none⟩ = some (.slice yro yrn yrc)) := fun u f => ⟨f.cell d0, f.cell d1, f.cell d2⟩
        clear d0 d1 d2
        go_wp2_with fail
        clear c1
        cases b
        · by_cases h1 : ko < yo
          · have HN : Hid (setP Lk.o kk P (ls.take (k + 1)) = (ys ++ [kk] ++ [yl], true)) := by
              show setP Lk.o kk P (ls.take (k + 1)) = (ys ++ [kk] ++ [yl], true)
              rw [HS.out]; exact setS_in (by have := HKo.out; have := HY.out; omega)
            clear HS
            have HLN : Hid (LksR B w (zs ++ [⟨ko, kwr, kro, krn, krc⟩] ++ [⟨yo, ywr, yro, yrn, yrc⟩]) (ys ++ [kk] ++ [yl])) := LksR.snoc (LksR.snoc HLR.out hK) HYR.out
            have e2 : (yo == ko) = false := beq_eq_false_iff_ne.2 (by omega)
            have := Later.some wr
            have q2 : ∀ s : Later wr, s.u.cell? ⟨b0, 1, none⟩ = some (.slice (some ⟨bl, off, none⟩) lvs.length lc) := fun s => HC.out _ (hf.trans s.fr)
            have qk : ∀ s : Later wr, s.u.cell? ⟨b0 + 1, 0, none⟩ = some (.int .i64 ko) := fun s => (HK.out _ (hf.trans s.fr)).1
            have qd : ∀ s : Later wr, s.u.cell? ⟨bl, off + k * 3, none⟩ = some (.int .i64 yo) := fun s => (HD.out _ (hf.trans s.fr)).1
            refine wp_region_grown (by kernel_rfl) (by kernel_rfl) ?_
            repeat (go_big_quiet_step (fail))
            refine wpQuiet_nil ?_
            rintro _ ⟨s1, rfl⟩
            clear q2 qk qd
            have f1 := hf.trans s1.fr
            have z1 := f1.size
            obtain ⟨c10, c11, c12⟩ := HK.out _ f1
            obtain ⟨e10, e11, e12⟩ := HD.out _ f1
            have e15 := HC.out _ f1
            have o1 := hown.fr s1.fr
            go_wp2_with (at_builtin; refine appL _ rfl _ _ rfl W.heap.size u5 zs ⟨ko, kwr, kro, krn, krc⟩ rfl o1 rfl (by first | omega | (simp; omega)) z1 ?_; intro v4 w4 hv4 hg4)
            have g4 := (f1.trans (Fr.alloc _ _)).then hg4 o1.blk
            clear c10 c11 c12 e10 e11 e12 e15
            clear hg4
            have := Later.some w4
            have q2 : ∀ s : Later w4, s.u.cell? ⟨b0, 1, none⟩ = some (.slice (some ⟨bl, off, none⟩) lvs.length lc) := fun s => HC.out _ (g4.trans s.fr)
            have qk : ∀ s : Later w4, s.u.cell? ⟨b0 + 1, 0, none⟩ = some (.int .i64 ko) := fun s => (HK.out _ (g4.trans s.fr)).1
            have qd : ∀ s : Later w4, s.u.cell? ⟨bl, off + k * 3, none⟩ = some (.int .i64 yo) := fun s => (HD.out _ (g4.trans s.fr)).1
            refine wp_region_grown (by kernel_rfl) (by kernel_rfl) ?_
            repeat (go_big_quiet_step (fail))
            refine wpQuiet_nil ?_
            rintro _ ⟨s2, rfl⟩
            clear q2 qk qd
            have f2 := g4.trans s2.fr
            have z2 := f2.size
            obtain ⟨c20, c21, c22⟩ := HK.out _ f2
            obtain ⟨e20, e21, e22⟩ := HD.out _ f2
            have e25 := HC.out _ f2
            have o2 := hv4.fr s2.fr
            go_wp2_with (at_builtin; refine appL _ rfl _ _ rfl W.heap.size v4 (zs ++ [⟨ko, kwr, kro, krn, krc⟩]) ⟨yo, ywr, yro, yrn, yrc⟩ rfl o2 rfl (by first | omega | (simp; omega)) z2 ?_; intro v6 w6 hv6 hg6)
            have g6 := (f2.trans (Fr.alloc _ _)).then hg6 o2.blk
            clear c20 c21 c22 e20 e21 e22 e25
            clear hg6
            go_roundw
            case rel => exact ⟨k + 1, _, _, _, by omega, by go_num, rfl, HN, HLN.out, by first | omega | (simp; omega), hv6, g6⟩
            case measure => simp [intOf]; omega
          · by_cases h2 : yo = ko
            · have HN : Hid (setP Lk.o kk P (ls.take (k + 1)) = (ys ++ [kk], true)) := by
                show setP Lk.o kk P (ls.take (k + 1)) = (ys ++ [kk], true)
                rw [HS.out]; exact setS_at (by have := HKo.out; have := HY.out; omega)
              clear HS
              have HLN : Hid (LksR B w (zs ++ [⟨ko, kwr, kro, krn, krc⟩]) (ys ++ [kk])) := LksR.snoc HLR.out hK
              have e2 : (yo == ko) = true := beq_iff_eq.2 h2
              have h1' : yo ≤ ko := by omega
              clear h1 h2
              have := Later.some wr
              have q2 : ∀ s : Later wr, s.u.cell? ⟨b0, 1, none⟩ = some (.slice (some ⟨bl, off, none⟩) lvs.length lc) := fun s => HC.out _ (hf.trans s.fr)
              have qk : ∀ s : Later wr, s.u.cell? ⟨b0 + 1, 0, none⟩ = some (.int .i64 ko) := fun s => (HK.out _ (hf.trans s.fr)).1
              have qd : ∀ s : Later wr, s.u.cell? ⟨bl, off + k * 3, none⟩ = some (.int .i64 yo) := fun s => (HD.out _ (hf.trans s.fr)).1
              refine wp_region_grown (by kernel_rfl) (by kernel_rfl) ?_
              repeat (go_big_quiet_step (fail))
              refine wpQuiet_nil ?_
              rintro _ ⟨s1, rfl⟩
              clear q2 qk qd
              go_wp2_with fail
              have := Later.some s1.u
              have q2 : ∀ s : Later s1.u, s.u.cell? ⟨b0, 1, none⟩ = some (.slice (some ⟨bl, off, none⟩) lvs.length lc) := fun s => HC.out _ ((hf.trans s1.fr).trans s.fr)
              have qk : ∀ s : Later s1.u, s.u.cell? ⟨b0 + 1, 0, none⟩ = some (.int .i64 ko) := fun s => (HK.out _ ((hf.trans s1.fr).trans s.fr)).1
              have qd : ∀ s : Later s1.u, s.u.cell? ⟨bl, off + k * 3, none⟩ = some (.int .i64 yo) := fun s => (HD.out _ ((hf.trans s1.fr).trans s.fr)).1
              refine wp_region_grown (by kernel_rfl) (by kernel_rfl) ?_
              repeat (go_big_quiet_step (fail))
              refine wpQuiet_nil ?_
              rintro _ ⟨s2, rfl⟩
              clear q2 qk qd
              have f2 := (hf.trans s1.fr).trans s2.fr
              have z2 := f2.size
              obtain ⟨c20, c21, c22⟩ := HK.out _ f2
              obtain ⟨e20, e21, e22⟩ := HD.out _ f2
              have e25 := HC.out _ f2
              have o2 := (hown.fr s1.fr).fr s2.fr
              go_wp2_with (at_builtin; refine appL _ rfl _ _ rfl W.heap.size u5 zs ⟨ko, kwr, kro, krn, krc⟩ rfl o2 rfl (by first | omega | (simp; omega)) z2 ?_; intro v6 w6 hv6 hg6)
              have g6 := (f2.trans (Fr.alloc _ _)).then hg6 o2.blk
              clear c20 c21 c22 e20 e21 e22 e25
              clear hg6
              go_roundw
              case rel => exact ⟨k + 1, _, _, _, by omega, by go_num, rfl, HN, HLN.out, by first | omega | (simp; omega), hv6, g6⟩
              case measure => simp [intOf]; omega
            · have h3 : yo < ko := by omega
              have HN : Hid (setP Lk.o kk P (ls.take (k + 1)) = (ys ++ [yl], false)) := by
                show setP Lk.o kk P (ls.take (k + 1)) = (ys ++ [yl], false)
                rw [HS.out]; exact setS_on (by have := HKo.out; have := HY.out; omega)
              clear HS
              have HLN : Hid (LksR B w (zs ++ [⟨yo, ywr, yro, yrn, yrc⟩]) (ys ++ [yl])) := LksR.snoc HLR.out HYR.out
              have e2 : (yo == ko) = false := beq_eq_false_iff_ne.2 (by omega)
              have h1' : yo ≤ ko := by omega
              clear h1 h2
              have := Later.some wr
              have q2 : ∀ s : Later wr, s.u.cell? ⟨b0, 1, none⟩ = some (.slice (some ⟨bl, off, none⟩) lvs.length lc) := fun s => HC.out _ (hf.trans s.fr)
              have qk : ∀ s : Later wr, s.u.cell? ⟨b0 + 1, 0, none⟩ = some (.int .i64 ko) := fun s => (HK.out _ (hf.trans s.fr)).1
              have qd : ∀ s : Later wr, s.u.cell? ⟨bl, off + k * 3, none⟩ = some (.int .i64 yo) := fun s => (HD.out _ (hf.trans s.fr)).1
              refine wp_region_grown (by kernel_rfl) (by kernel_rfl) ?_
              repeat (go_big_quiet_step (fail))
              refine wpQuiet_nil ?_
              rintro _ ⟨s1, rfl⟩
              clear q2 qk qd
              go_wp2_with fail
              have := Later.some s1.u
              have q2 : ∀ s : Later s1.u, s.u.cell? ⟨b0, 1, none⟩ = some (.slice (some ⟨bl, off, none⟩) lvs.length lc) := fun s => HC.out _ ((hf.trans s1.fr).trans s.fr)
              have qk : ∀ s : Later s1.u, s.u.cell? ⟨b0 + 1, 0, none⟩ = some (.int .i64 ko) := fun s => (HK.out _ ((hf.trans s1.fr).trans s.fr)).1
              have qd : ∀ s : Later s1.u, s.u.cell? ⟨bl, off + k * 3, none⟩ = some (.int .i64 yo) := fun s => (HD.out _ ((hf.trans s1.fr).trans s.fr)).1
              refine wp_region_grown (by kernel_rfl) (by kernel_rfl) ?_
              repeat (go_big_quiet_step (fail))
              refine wpQuiet_nil ?_
              rintro _ ⟨s2, rfl⟩
              clear q2 qk qd
              have f2 := (hf.trans s1.fr).trans s2.fr
              have z2 := f2.size
              obtain ⟨c20, c21, c22⟩ := HK.out _ f2
              obtain ⟨e20, e21, e22⟩ := HD.out _ f2
              have e25 := HC.out _ f2
              have o2 := (hown.fr s1.fr).fr s2.fr
              go_wp2_with (at_builtin; refine appL _ rfl _ _ rfl W.heap.size u5 zs ⟨yo, ywr, yro, yrn, yrc⟩ rfl o2 rfl (by first | omega | (simp; omega)) z2 ?_; intro v6 w6 hv6 hg6)
              have g6 := (f2.trans (Fr.alloc _ _)).then hg6 o2.blk
              clear c20 c21 c22 e20 e21 e22 e25
              clear hg6
              go_roundw
              case rel => exact ⟨k + 1, _, _, _, by omega, by go_num, rfl, HN, HLN.out, by first | omega | (simp; omega), hv6, g6⟩
              case measure => simp [intOf]; omega
        · cases e2 : (yo == ko)
          · have HN : Hid (setP Lk.o kk P (ls.take (k + 1)) = (ys ++ [yl], true)) := by
              show setP Lk.o kk P (ls.take (k + 1)) = (ys ++ [yl], true)
              rw [HS.out]; exact setS_go (by have := HKo.out; have := HY.out; have := beq_eq_false_iff_ne.1 e2; omega)
            clear HS
            have HLN : Hid (LksR B w (zs ++ [⟨yo, ywr, yro, yrn, yrc⟩]) (ys ++ [yl])) := LksR.snoc HLR.out HYR.out
            have := Later.some wr
            have q2 : ∀ s : Later wr, s.u.cell? ⟨b0, 1, none⟩ = some (.slice (some ⟨bl, off, none⟩) lvs.length lc) := fun s => HC.out _ (hf.trans s.fr)
            have qk : ∀ s : Later wr, s.u.cell? ⟨b0 + 1, 0, none⟩ = some (.int .i64 ko) := fun s => (HK.out _ (hf.trans s.fr)).1
            have qd : ∀ s : Later wr, s.u.cell? ⟨bl, off + k * 3, none⟩ = some (.int .i64 yo) := fun s => (HD.out _ (hf.trans s.fr)).1
            refine wp_region_grown (by kernel_rfl) (by kernel_rfl) ?_
            repeat (go_big_quiet_step (fail))
            refine wpQuiet_nil ?_
            rintro _ ⟨s1, rfl⟩
            clear q2 qk qd
            go_wp2_with fail
            have := Later.some s1.u
            have q2 : ∀ s : Later s1.u, s.u.cell? ⟨b0, 1, none⟩ = some (.slice (some ⟨bl, off, none⟩) lvs.length lc) := fun s => HC.out _ ((hf.trans s1.fr).trans s.fr)
            have qk : ∀ s : Later s1.u, s.u.cell? ⟨b0 + 1, 0, none⟩ = some (.int .i64 ko) := fun s => (HK.out _ ((hf.trans s1.fr).trans s.fr)).1
            have qd : ∀ s : Later s1.u, s.u.cell? ⟨bl, off + k * 3, none⟩ = some (.int .i64 yo) := fun s => (HD.out _ ((hf.trans s1.fr).trans s.fr)).1
            refine wp_region_grown (by kernel_rfl) (by kernel_rfl) ?_
            repeat (go_big_quiet_step (fail))
            refine wpQuiet_nil ?_
            rintro _ ⟨s2, rfl⟩
            clear q2 qk qd
            have f2 := (hf.trans s1.fr).trans s2.fr
            have z2 := f2.size
            obtain ⟨c20, c21, c22⟩ := HK.out _ f2
            obtain ⟨e20, e21, e22⟩ := HD.out _ f2
            have e25 := HC.out _ f2
            have o2 := (hown.fr s1.fr).fr s2.fr
            go_wp2_with (at_builtin; refine appL _ rfl _ _ rfl W.heap.size u5 zs ⟨yo, ywr, yro, yrn, yrc⟩ rfl o2 rfl (by first | omega | (simp; omega)) z2 ?_; intro v6 w6 hv6 hg6)
            have g6 := (f2.trans (Fr.alloc _ _)).then hg6 o2.blk
            clear c20 c21 c22 e20 e21 e22 e25
            clear hg6
            go_roundw
            case rel => exact ⟨k + 1, _, _, _, by omega, by go_num, rfl, HN, HLN.out, by first | omega | (simp; omega), hv6, g6⟩
            case measure => simp [intOf]; omega
          · have HN : Hid (setP Lk.o kk P (ls.take (k + 1)) = (ys, true)) := by
              show setP Lk.o kk P (ls.take (k + 1)) = (ys, true)
              rw [HS.out]; exact setS_by (by have := HKo.out; have := HY.out; have := beq_iff_eq.1 e2; omega)
            clear HS
            have HLN : Hid (LksR B w zs (ys)) := HLR.out
            have := Later.some wr
            have q2 : ∀ s : Later wr, s.u.cell? ⟨b0, 1, none⟩ = some (.slice (some ⟨bl, off, none⟩) lvs.length lc) := fun s => HC.out _ (hf.trans s.fr)
            have qk : ∀ s : Later wr, s.u.cell? ⟨b0 + 1, 0, none⟩ = some (.int .i64 ko) := fun s => (HK.out _ (hf.trans s.fr)).1
            have qd : ∀ s : Later wr, s.u.cell? ⟨bl, off + k * 3, none⟩ = some (.int .i64 yo) := fun s => (HD.out _ (hf.trans s.fr)).1
            refine wp_region_grown (by kernel_rfl) (by kernel_rfl) ?_
            repeat (go_big_quiet_step (fail))
            refine wpQuiet_nil ?_
            rintro _ ⟨s1, rfl⟩
            clear q2 qk qd
            go_wp2_with fail
            have := Later.some s1.u
            have q2 : ∀ s : Later s1.u, s.u.cell? ⟨b0, 1, none⟩ = some (.slice (some ⟨bl, off, none⟩) lvs.length lc) := fun s => HC.out _ ((hf.trans s1.fr).trans s.fr)
            have qk : ∀ s : Later s1.u, s.u.cell? ⟨b0 + 1, 0, none⟩ = some (.int .i64 ko) := fun s => (HK.out _ ((hf.trans s1.fr).trans s.fr)).1
            have qd : ∀ s : Later s1.u, s.u.cell? ⟨bl, off + k * 3, none⟩ = some (.int .i64 yo) := fun s => (HD.out _ ((hf.trans s1.fr).trans s.fr)).1
            refine wp_region_grown (by kernel_rfl) (by kernel_rfl) ?_
            repeat (go_big_quiet_step (fail))
            refine wpQuiet_nil ?_
            rintro _ ⟨s2, rfl⟩
            clear q2 qk qd
            go_wp2_with fail
            go_roundw
            case rel => exact ⟨k + 1, _, _, _, by omega, by go_num, rfl, HN, HLN.out, by first | omega | (simp; omega), (hown.fr s1.fr).fr s2.fr, (hf.trans s1.fr).trans s2.fr⟩
            case measure => simp [intOf]; omega
      · have et : k = lvs.length := by omega
        subst et
        rw [HL.out, List.take_length] at HQ
        cases b
        · have HL4 : Hid (LksR B w (zs ++ [⟨ko, kwr, kro, krn, krc⟩]) (ys ++ [kk])) := LksR.snoc HLR.out hK
          have HN : Hid ((setLk m kk).ls = ys ++ [kk]) := by
            show setL Lk.o kk (lkFree kk) m.ls = ys ++ [kk]
            rw [HG.out, HP.out]; exact setL_end HQ.out
          clear HQ
          obtain ⟨e0, e1, e2⟩ := HK.out _ hf
          go_wp2_with (at_builtin; refine appL _ rfl _ _ rfl W.heap.size u5 zs ⟨ko, kwr, kro, krn, krc⟩ rfl hown rfl (by omega) hs ?_; intro v1 w4 hv1 hg1; have f4 := (hf.trans (Fr.alloc _ _)).then hg1 hbk; obtain ⟨gg, cg, rfl, hw, hwl⟩ := hv1; obtain ⟨i0, i1, i2, i3, i4⟩ := (k1.fr f4).at; obtain ⟨j0, j1, j2, j3, j4⟩ := (k2.fr f4).at; have v0 := (k1.fr f4).free 1; have v1 := fun i => (k2.fr f4).free i; simp only at i0 i1 i2 i3 i4 j0 j1 j2 j3 j4; clear hg1 c1 e0 e1 e2)
          refine bodyPost_ret (v := .agg #[.int .i64 g, .slice (some ⟨gg, 0, none⟩) (zs.length + 1) cg, .slice co cl cc, .slice no nl nc, .slice oo ol oc]) (by simp [results, Tryz.results165, go_sem, j0, j1, j2, j3, j4]) rfl ⟨⟨g, some ⟨gg, 0, none⟩, (zs.length + 1), cg, co, cl, cc, no, nl, nc, oo, ol, oc⟩, rfl, ?_, ?_⟩
          · have hF := set_fin (i := 1) (x := .slice (some ⟨gg, 0, none⟩) (zs.length + 1) cg) (v0 := .int .i64 g) (v1 := .slice (some ⟨gg, 0, none⟩) (zs.length + 1) cg) (v2 := .slice co cl cc) (v3 := .slice no nl nc) (v4 := .slice oo ol oc) fW f4 (Nat.le_of_eq HB.out.symm) (rb := b0 + 1 + 1) (by have := HB.out; omega) (by have := HZ.out; omega) (by have := HZ.out; omega) ⟨gg, cg, rfl, hw, hwl⟩
            have ha := hF.2.at
            exact ScR.locks (HR.out.mono Grew.old) hF.1 (.inr ⟨by have := HZ.out; have := HB.out; have := ha.2.2; omega, hF.2.lt _ rfl⟩) (by rw [HG.out, ← HL.out]; exact hl) ha.1 (by simp) (by rw [HN.out]; exact (HL4.out.fr hF.1).mono Grew.old)
          · exact (set_fin fW f4 (Nat.le_of_eq HB.out.symm) (rb := b0 + 1 + 1) (by have := HB.out; omega) (by have := HZ.out; omega) (by have := HZ.out; omega) ⟨gg, cg, rfl, hw, hwl⟩).1
        · have HN : Hid ((setLk m kk).ls = ys) := by
            show setL Lk.o kk (lkFree kk) m.ls = ys
            rw [HG.out, HP.out]; exact setL_in HQ.out
          clear HQ
          obtain ⟨gg, cg, rfl, hw, hwl⟩ := hown
          obtain ⟨i0, i1, i2, i3, i4⟩ := (k1.fr hf).at
          obtain ⟨j0, j1, j2, j3, j4⟩ := (k2.fr hf).at
          have v0 := (k1.fr hf).free 1
          have v1 := fun i => (k2.fr hf).free i
          simp only at i0 i1 i2 i3 i4 j0 j1 j2 j3 j4
          clear c1
          go_wp2_with fail
          refine bodyPost_ret (v := .agg #[.int .i64 g, .slice (some ⟨gg, 0, none⟩) zs.length cg, .slice co cl cc, .slice no nl nc, .slice oo ol oc]) (by simp [results, Tryz.results165, go_sem, j0, j1, j2, j3, j4]) rfl ⟨⟨g, some ⟨gg, 0, none⟩, zs.length, cg, co, cl, cc, no, nl, nc, oo, ol, oc⟩, rfl, ?_, ?_⟩
          · have hF := set_fin (i := 1) (x := .slice (some ⟨gg, 0, none⟩) zs.length cg) (v0 := .int .i64 g) (v1 := .slice (some ⟨gg, 0, none⟩) zs.length cg) (v2 := .slice co cl cc) (v3 := .slice no nl nc) (v4 := .slice oo ol oc) fW hf (Nat.le_of_eq HB.out.symm) (rb := b0 + 1 + 1) (by have := HB.out; omega) (by have := HZ.out; omega) (by have := HZ.out; omega) ⟨gg, cg, rfl, hw, hwl⟩
            have ha := hF.2.at
            exact ScR.locks (HR.out.mono Grew.old) hF.1 (.inr ⟨by have := HZ.out; have := HB.out; have := ha.2.2; omega, hF.2.lt _ rfl⟩) (by rw [HG.out, ← HL.out]; exact hl) ha.1 (by rfl) (by rw [HN.out]; exact (HLR.out.fr hF.1).mono Grew.old)
          · exact (set_fin fW hf (Nat.le_of_eq HB.out.symm) (rb := b0 + 1 + 1) (by have := HB.out; omega) (by have := HZ.out; omega) (by have := HZ.out; omega) ⟨gg, cg, rfl, hw, hwl⟩).1
end Go.Proofs.YtcofhmikdkkigaaGreatDoor
