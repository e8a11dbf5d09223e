/-
  Pack AV: ScCh.
-/
import Derived.Test.YtcofhmikdkkigaaGreatDoorPfAQ
import Derived.Test.YtcofhmikdkkigaaGreatDoorPfAE
namespace Go.Proofs.YtcofhmikdkkigaaGreatDoor
open Go.RowKit

theorem ScR.chans {B : Nat → Prop} {w w' : World} {s : Sv} {m : Scn} {k : Ch} {c g l : Nat} (h : ScR B w s m) (f : Fr w w') (hB : B g) (hk : I64 k.o ∧ I64 k.cap ∧ I64 k.sent ∧ I64 k.got) (hl : m.cs.length ≤ 1000)
    (hr : ReadsG layC w' (some ⟨g, 0, none⟩) (setCh m k).cs) (hlen : l = (setCh m k).cs.length) : ScR B w' { s with co := some ⟨g, 0, none⟩, cl := l, cc := c } (setCh m k) := by
  have h' := h.fr f
  have h2 := setL_len Ch.o k false m.cs
  have h3 := setL_mem Ch.o k false m.cs
  refine { h' with chs := hr, cl := hlen, bc := ?_, sc := ?_, ic := ?_ }
  · intro b hb
    simp only [blk, Option.map_some, Option.some.injEq] at hb
    subst hb
    exact hB
  · show (setL Ch.o k false m.cs).length ≤ 1048576
    omega
  · intro y hy
    rcases h3 y hy with hy | rfl
    · exact h.ic y hy
    · exact hk
theorem chan_cells (w : World) (k : Ch) : (w.alloc (.cells #[.int .i64 k.o, .int .i64 k.cap, .int .i64 k.sent, .int .i64 k.got, .bool k.cl] 89)).cell? ⟨w.heap.size, 0, none⟩ = some (.int .i64 k.o) ∧ (w.alloc (.cells #[.int .i64 k.o, .int .i64 k.cap, .int .i64 k.sent, .int .i64 k.got, .bool k.cl] 89)).cell? ⟨w.heap.size, 1, none⟩ = some (.int .i64 k.cap) ∧ (w.alloc (.cells #[.int .i64 k.o, .int .i64 k.cap, .int .i64 k.sent, .int .i64 k.got, .bool k.cl] 89)).cell? ⟨w.heap.size, 2, none⟩ = some (.int .i64 k.sent) ∧ (w.alloc (.cells #[.int .i64 k.o, .int .i64 k.cap, .int .i64 k.sent, .int .i64 k.got, .bool k.cl] 89)).cell? ⟨w.heap.size, 3, none⟩ = some (.int .i64 k.got) ∧ (w.alloc (.cells #[.int .i64 k.o, .int .i64 k.cap, .int .i64 k.sent, .int .i64 k.got, .bool k.cl] 89)).cell? ⟨w.heap.size, 4, none⟩ = some (.bool k.cl) :=
  ⟨by simp [go_sem], by simp [go_sem], by simp [go_sem], by simp [go_sem], by simp [go_sem]⟩
theorem chan_cells_fr {w w' : World} {b off : Nat} {k : Ch} (h : w.cell? ⟨b, off, none⟩ = some (.int .i64 k.o) ∧ w.cell? ⟨b, off + 1, none⟩ = some (.int .i64 k.cap) ∧ w.cell? ⟨b, off + 2, none⟩ = some (.int .i64 k.sent) ∧ w.cell? ⟨b, off + 3, none⟩ = some (.int .i64 k.got) ∧ w.cell? ⟨b, off + 4, none⟩ = some (.bool k.cl)) (f : Fr w w') :
    w'.cell? ⟨b, off, none⟩ = some (.int .i64 k.o) ∧ w'.cell? ⟨b, off + 1, none⟩ = some (.int .i64 k.cap) ∧ w'.cell? ⟨b, off + 2, none⟩ = some (.int .i64 k.sent) ∧ w'.cell? ⟨b, off + 3, none⟩ = some (.int .i64 k.got) ∧ w'.cell? ⟨b, off + 4, none⟩ = some (.bool k.cl) :=
  ⟨f.cell h.1, f.cell h.2.1, f.cell h.2.2.1, f.cell h.2.2.2.1, f.cell h.2.2.2.2⟩

set_option maxRecDepth 20000 in
set_option maxHeartbeats 4000000 in
theorem l4SetChan_any {B : Nat → Prop} (s : Sv) (m : Scn) (kk : Ch) (w : World) (hK : I64 kk.o ∧ I64 kk.cap ∧ I64 kk.sent ∧ I64 kk.got) (hl : m.cs.length ≤ 1000) (h : ScR B w s m) :
    Calls Tryz.prog 168 #[.agg #[.int .i64 s.g, .slice s.lo s.ll s.lc, .slice s.co s.cl s.cc, .slice s.no s.nl s.nc, .slice s.oo s.ol s.oc], .agg #[.int .i64 kk.o, .int .i64 kk.cap, .int .i64 kk.sent, .int .i64 kk.got, .bool kk.cl]] w fun e w' => ∃ s' : Sv, e = .returned (.agg #[.int .i64 s'.g, .slice s'.lo s'.ll s'.lc, .slice s'.co s'.cl s'.cc, .slice s'.no s'.nl s'.nc, .slice s'.oo s'.ol s'.oc]) ∧ ScR (Grew B w w') w' s' (setCh m kk) ∧ Fr w w' := by
  have hr := h.chs
  have hN := h.cl
  have HR : Hid (ScR B w s m) := h
  clear h
  obtain ⟨g, lo, ll, lc, co, cl, cc, no, nl, nc, oo, ol, oc⟩ := s
  obtain ⟨ko, kcap, ksent, kgot, kcl⟩ := kk
  simp only at hr hN ⊢
  obtain ⟨gs, hgs⟩ : ∃ gs, gs = m.cs := ⟨_, rfl⟩
  have HG : Hid (m.cs = gs) := hgs.symm
  rw [← hgs] at hr hl hN
  subst hN
  clear hgs
  go_enter Tryz.func168, Tryz.ntmps168
  go_wp2_with fail
  obtain ⟨W, hW⟩ : ∃ W, W = ((w.alloc (.cells #[.int .i64 g, .slice lo ll lc, .slice co gs.length cc, .slice no nl nc, .slice oo ol oc] 29)).alloc (.cells #[.int .i64 ko, .int .i64 kcap, .int .i64 ksent, .int .i64 kgot, .bool kcl] 89)).alloc (.cells #[.int .i64 0, .slice none 0 0, .slice none 0 0, .slice none 0 0, .slice none 0 0] 29) := ⟨_, rfl⟩
  obtain ⟨k1, k2, fW, hz, f3⟩ := box3 w ⟨g, lo, ll, lc, co, gs.length, cc, no, nl, nc, oo, ol, oc⟩ (.cells #[.int .i64 ko, .int .i64 kcap, .int .i64 ksent, .int .i64 kgot, .bool kcl] 89)
  have kc := chan_cells_fr (k := ⟨ko, kcap, ksent, kgot, kcl⟩) (off := 0) (chan_cells (w.alloc (.cells #[.int .i64 g, .slice lo ll lc, .slice co gs.length cc, .slice no nl nc, .slice oo ol oc] 29)) ⟨ko, kcap, ksent, kgot, kcl⟩) f3
  simp only [Nat.zero_add, World.size_alloc] at k1 k2 kc
  rw [← hW] at k1 k2 kc fW hz ⊢
  obtain ⟨b0, hbb⟩ : ∃ b0, b0 = w.heap.size := ⟨_, rfl⟩
  rw [← hbb] at k1 k2 kc hz ⊢
  have HB : Hid (b0 = w.heap.size) := hbb
  have HZ : Hid (W.heap.size = b0 + 3) := hz
  have k2 : ScK W (b0 + 1 + 1) ⟨0, none, 0, 0, none, 0, 0, none, 0, 0, none, 0, 0⟩ := k2
  have HK : Hid (∀ u, Fr W u → u.cell? ⟨b0 + 1, 0, none⟩ = some (.int .i64 ko) ∧ u.cell? ⟨b0 + 1, 1, none⟩ = some (.int .i64 kcap) ∧ u.cell? ⟨b0 + 1, 2, none⟩ = some (.int .i64 ksent) ∧ u.cell? ⟨b0 + 1, 3, none⟩ = some (.int .i64 kgot) ∧ u.cell? ⟨b0 + 1, 4, none⟩ = some (.bool kcl)) := fun u f => ⟨f.cell kc.1, f.cell kc.2.1, f.cell kc.2.2.1, f.cell kc.2.2.2.1, f.cell kc.2.2.2.2⟩
  have HC : Hid (∀ u, Fr W u → u.cell? ⟨b0, 2, none⟩ = some (.slice co gs.length cc)) := fun u f => (k1.fr f).at.c2
  have HW : Hid (b0 + 1 + 1 + 1 = W.heap.size) := hz.symm
  clear hW hbb f3 hz kc
  go_loopw [5, 6, 7] (fun u q i wr => ∃ (k : Nat) (ys : List Ch) (b : Bool), k ≤ gs.length ∧ i = .int .i64 k ∧ q = .bool b ∧ Hid (setP Ch.o ⟨ko, kcap, ksent, kgot, kcl⟩ false (gs.take k) = (ys, b)) ∧ ys.length ≤ 2 * k ∧ OwnG layC wr W.heap.size u ys ∧ Fr W wr) (fun _ _ i _ => gs.length - (intOf i).toNat)
  case atStart => exact ⟨0, [], _, Nat.zero_le _, rfl, rfl, rfl, by simp, by rw [HW.out]; exact ownG_new layC W _ (Nat.le_refl _), Fr.alloc W _⟩
  case round =>
    obtain ⟨k, ys, b, hk, rfl, rfl, HP, hyl, hown, hf⟩ := hrel
    have hs := hf.size
    have hbk := hown.blk
    have c2 := HC.out _ hf
    by_cases hlt : k < gs.length
    · obtain ⟨bl, off, rfl, d0, d1, d2, d3, d4⟩ := ch_at (hr.fr fW) k hlt
      have HS : Hid (setP Ch.o ⟨ko, kcap, ksent, kgot, kcl⟩ false (gs.take (k + 1)) = setS Ch.o ⟨ko, kcap, ksent, kgot, kcl⟩ (ys, b) gs[k]) := by
        show setP Ch.o ⟨ko, kcap, ksent, kgot, kcl⟩ false (gs.take (k + 1)) = setS Ch.o ⟨ko, kcap, ksent, kgot, kcl⟩ (ys, b) gs[k]
        rw [setP_step Ch.o _ _ gs k hlt, HP.out]
      obtain ⟨y, hy⟩ : ∃ y, y = gs[k] := ⟨_, rfl⟩
      simp only [← hy] at d0 d1 d2 d3 d4
      rw [← hy] at HS
      clear hy HP
      obtain ⟨yo, ycap, ysent, ygot, ycl⟩ := y
      simp only at d0 d1 d2 d3 d4
      have HD : Hid (∀ u, Fr W u → u.cell? ⟨bl, off + k * 5, none⟩ = some (.int .i64 yo) ∧ u.cell? ⟨bl, off + k * 5 + 1, none⟩ = some (.int .i64 ycap) ∧ u.cell? ⟨bl, off + k * 5 + 2, none⟩ = some (.int .i64 ysent) ∧ u.cell? ⟨bl, off + k * 5 + 3, none⟩ = some (.int .i64 ygot) ∧ u.cell? ⟨bl, off + k * 5 + 4, none⟩ = some (.bool ycl)) := fun u f => ⟨f.cell d0, f.cell d1, f.cell d2, f.cell d3, f.cell d4⟩
      clear d0 d1 d2 d3 d4
      go_wp2_with fail
      clear c2
      cases b
      · by_cases h1 : ko < yo
        · have HN : Hid (setP Ch.o ⟨ko, kcap, ksent, kgot, kcl⟩ false (gs.take (k + 1)) = (ys ++ [⟨ko, kcap, ksent, kgot, kcl⟩] ++ [⟨yo, ycap, ysent, ygot, ycl⟩], true)) := by
            show setP Ch.o ⟨ko, kcap, ksent, kgot, kcl⟩ false (gs.take (k + 1)) = (ys ++ [⟨ko, kcap, ksent, kgot, kcl⟩] ++ [⟨yo, ycap, ysent, ygot, ycl⟩], true)
            rw [HS.out]; exact setS_in h1
          clear HS
          have e2 : (yo == ko) = false := beq_eq_false_iff_ne.2 (by omega)
          have h1' : ko ≤ yo := by omega
          clear h1
          have := Later.some wr
          have q2 : ∀ s : Later wr, s.u.cell? ⟨b0, 2, none⟩ = some (.slice (some ⟨bl, off, none⟩) gs.length cc) := fun s => HC.out _ (hf.trans s.fr)
          have qk : ∀ s : Later wr, s.u.cell? ⟨b0 + 1, 0, none⟩ = some (.int .i64 ko) := fun s => (HK.out _ (hf.trans s.fr)).1
          have qd : ∀ s : Later wr, s.u.cell? ⟨bl, off + k * 5, none⟩ = some (.int .i64 yo) := fun s => (HD.out _ (hf.trans s.fr)).1
          refine wp_region_grown (by kernel_rfl) (by kernel_rfl) ?_
          repeat (go_big_quiet_step (fail))
          refine wpQuiet_nil ?_
          rintro _ ⟨s1, rfl⟩
          clear q2 qk qd
          have f1 := hf.trans s1.fr
          have z1 := f1.size
          obtain ⟨c10, c11, c12, c13, c14⟩ := HK.out _ f1
          obtain ⟨e10, e11, e12, e13, e14⟩ := HD.out _ f1
          have e15 := HC.out _ f1
          have o1 := hown.fr s1.fr
          go_wp2_with (at_builtin; refine appC _ rfl _ _ rfl W.heap.size u5 ys ⟨ko, kcap, ksent, kgot, kcl⟩ rfl o1 rfl (by first | omega | (simp; omega)) z1 ?_; intro v4 w4 hv4 hg4)
          have g4 := (f1.trans (Fr.alloc _ _)).then hg4 o1.blk
          clear c10 c11 c12 c13 c14 e10 e11 e12 e13 e14 e15
          clear hg4
          have := Later.some w4
          have q2 : ∀ s : Later w4, s.u.cell? ⟨b0, 2, none⟩ = some (.slice (some ⟨bl, off, none⟩) gs.length cc) := fun s => HC.out _ (g4.trans s.fr)
          have qk : ∀ s : Later w4, s.u.cell? ⟨b0 + 1, 0, none⟩ = some (.int .i64 ko) := fun s => (HK.out _ (g4.trans s.fr)).1
          have qd : ∀ s : Later w4, s.u.cell? ⟨bl, off + k * 5, none⟩ = some (.int .i64 yo) := fun s => (HD.out _ (g4.trans s.fr)).1
          refine wp_region_grown (by kernel_rfl) (by kernel_rfl) ?_
          repeat (go_big_quiet_step (fail))
          refine wpQuiet_nil ?_
          rintro _ ⟨s2, rfl⟩
          clear q2 qk qd
          have f2 := g4.trans s2.fr
          have z2 := f2.size
          obtain ⟨c20, c21, c22, c23, c24⟩ := HK.out _ f2
          obtain ⟨e20, e21, e22, e23, e24⟩ := HD.out _ f2
          have e25 := HC.out _ f2
          have o2 := hv4.fr s2.fr
          go_wp2_with (at_builtin; refine appC _ rfl _ _ rfl W.heap.size v4 (ys ++ [⟨ko, kcap, ksent, kgot, kcl⟩]) ⟨yo, ycap, ysent, ygot, ycl⟩ rfl o2 rfl (by first | omega | (simp; omega)) z2 ?_; intro v6 w6 hv6 hg6)
          have g6 := (f2.trans (Fr.alloc _ _)).then hg6 o2.blk
          clear c20 c21 c22 c23 c24 e20 e21 e22 e23 e24 e25
          clear hg6
          go_roundw
          case rel => exact ⟨k + 1, _, _, by omega, by go_num, rfl, HN, by first | omega | (simp; omega), hv6, g6⟩
          case measure => simp [intOf]; omega
        · by_cases h2 : yo = ko
          · have HN : Hid (setP Ch.o ⟨ko, kcap, ksent, kgot, kcl⟩ false (gs.take (k + 1)) = (ys ++ [⟨ko, kcap, ksent, kgot, kcl⟩], true)) := by
              show setP Ch.o ⟨ko, kcap, ksent, kgot, kcl⟩ false (gs.take (k + 1)) = (ys ++ [⟨ko, kcap, ksent, kgot, kcl⟩], true)
              rw [HS.out]; exact setS_at h2
            clear HS
            have e2 : (yo == ko) = true := beq_iff_eq.2 h2
            have h1' : ko ≤ yo := by omega
            clear h1 h2
            have := Later.some wr
            have q2 : ∀ s : Later wr, s.u.cell? ⟨b0, 2, none⟩ = some (.slice (some ⟨bl, off, none⟩) gs.length cc) := fun s => HC.out _ (hf.trans s.fr)
            have qk : ∀ s : Later wr, s.u.cell? ⟨b0 + 1, 0, none⟩ = some (.int .i64 ko) := fun s => (HK.out _ (hf.trans s.fr)).1
            have qd : ∀ s : Later wr, s.u.cell? ⟨bl, off + k * 5, none⟩ = some (.int .i64 yo) := fun s => (HD.out _ (hf.trans s.fr)).1
            refine wp_region_grown (by kernel_rfl) (by kernel_rfl) ?_
            repeat (go_big_quiet_step (fail))
            refine wpQuiet_nil ?_
            rintro _ ⟨s1, rfl⟩
            clear q2 qk qd
            have f1 := hf.trans s1.fr
            have z1 := f1.size
            obtain ⟨c10, c11, c12, c13, c14⟩ := HK.out _ f1
            obtain ⟨e10, e11, e12, e13, e14⟩ := HD.out _ f1
            have e15 := HC.out _ f1
            have o1 := hown.fr s1.fr
            go_wp2_with (at_builtin; refine appC _ rfl _ _ rfl W.heap.size u5 ys ⟨ko, kcap, ksent, kgot, kcl⟩ rfl o1 rfl (by first | omega | (simp; omega)) z1 ?_; intro v4 w4 hv4 hg4)
            have g4 := (f1.trans (Fr.alloc _ _)).then hg4 o1.blk
            clear c10 c11 c12 c13 c14 e10 e11 e12 e13 e14 e15
            clear hg4
            have := Later.some w4
            have q2 : ∀ s : Later w4, s.u.cell? ⟨b0, 2, none⟩ = some (.slice (some ⟨bl, off, none⟩) gs.length cc) := fun s => HC.out _ (g4.trans s.fr)
            have qk : ∀ s : Later w4, s.u.cell? ⟨b0 + 1, 0, none⟩ = some (.int .i64 ko) := fun s => (HK.out _ (g4.trans s.fr)).1
            have qd : ∀ s : Later w4, s.u.cell? ⟨bl, off + k * 5, none⟩ = some (.int .i64 yo) := fun s => (HD.out _ (g4.trans s.fr)).1
            refine wp_region_grown (by kernel_rfl) (by kernel_rfl) ?_
            repeat (go_big_quiet_step (fail))
            refine wpQuiet_nil ?_
            rintro _ ⟨s2, rfl⟩
            clear q2 qk qd
            go_wp2_with fail
            go_roundw
            case rel => exact ⟨k + 1, _, _, by omega, by go_num, rfl, HN, by first | omega | (simp; omega), hv4.fr s2.fr, g4.trans s2.fr⟩
            case measure => simp [intOf]; omega
          · have h3 : yo < ko := by omega
            have HN : Hid (setP Ch.o ⟨ko, kcap, ksent, kgot, kcl⟩ false (gs.take (k + 1)) = (ys ++ [⟨yo, ycap, ysent, ygot, ycl⟩], false)) := by
              show setP Ch.o ⟨ko, kcap, ksent, kgot, kcl⟩ false (gs.take (k + 1)) = (ys ++ [⟨yo, ycap, ysent, ygot, ycl⟩], false)
              rw [HS.out]; exact setS_on h3
            clear HS
            have e2 : (yo == ko) = false := beq_eq_false_iff_ne.2 (by omega)
            clear h1 h2
            have := Later.some wr
            have q2 : ∀ s : Later wr, s.u.cell? ⟨b0, 2, none⟩ = some (.slice (some ⟨bl, off, none⟩) gs.length cc) := fun s => HC.out _ (hf.trans s.fr)
            have qk : ∀ s : Later wr, s.u.cell? ⟨b0 + 1, 0, none⟩ = some (.int .i64 ko) := fun s => (HK.out _ (hf.trans s.fr)).1
            have qd : ∀ s : Later wr, s.u.cell? ⟨bl, off + k * 5, none⟩ = some (.int .i64 yo) := fun s => (HD.out _ (hf.trans s.fr)).1
            refine wp_region_grown (by kernel_rfl) (by kernel_rfl) ?_
            repeat (go_big_quiet_step (fail))
            refine wpQuiet_nil ?_
            rintro _ ⟨s1, rfl⟩
            clear q2 qk qd
            go_wp2_with fail
            have := Later.some s1.u
            have q2 : ∀ s : Later s1.u, s.u.cell? ⟨b0, 2, none⟩ = some (.slice (some ⟨bl, off, none⟩) gs.length cc) := fun s => HC.out _ ((hf.trans s1.fr).trans s.fr)
            have qk : ∀ s : Later s1.u, s.u.cell? ⟨b0 + 1, 0, none⟩ = some (.int .i64 ko) := fun s => (HK.out _ ((hf.trans s1.fr).trans s.fr)).1
            have qd : ∀ s : Later s1.u, s.u.cell? ⟨bl, off + k * 5, none⟩ = some (.int .i64 yo) := fun s => (HD.out _ ((hf.trans s1.fr).trans s.fr)).1
            refine wp_region_grown (by kernel_rfl) (by kernel_rfl) ?_
            repeat (go_big_quiet_step (fail))
            refine wpQuiet_nil ?_
            rintro _ ⟨s2, rfl⟩
            clear q2 qk qd
            have f2 := (hf.trans s1.fr).trans s2.fr
            have z2 := f2.size
            obtain ⟨c20, c21, c22, c23, c24⟩ := HK.out _ f2
            obtain ⟨e20, e21, e22, e23, e24⟩ := HD.out _ f2
            have e25 := HC.out _ f2
            have o2 := (hown.fr s1.fr).fr s2.fr
            go_wp2_with (at_builtin; refine appC _ rfl _ _ rfl W.heap.size u5 ys ⟨yo, ycap, ysent, ygot, ycl⟩ rfl o2 rfl (by first | omega | (simp; omega)) z2 ?_; intro v6 w6 hv6 hg6)
            have g6 := (f2.trans (Fr.alloc _ _)).then hg6 o2.blk
            clear c20 c21 c22 c23 c24 e20 e21 e22 e23 e24 e25
            clear hg6
            go_roundw
            case rel => exact ⟨k + 1, _, _, by omega, by go_num, rfl, HN, by first | omega | (simp; omega), hv6, g6⟩
            case measure => simp [intOf]; omega
      · cases e2 : (yo == ko)
        · have HN : Hid (setP Ch.o ⟨ko, kcap, ksent, kgot, kcl⟩ false (gs.take (k + 1)) = (ys ++ [⟨yo, ycap, ysent, ygot, ycl⟩], true)) := by
            show setP Ch.o ⟨ko, kcap, ksent, kgot, kcl⟩ false (gs.take (k + 1)) = (ys ++ [⟨yo, ycap, ysent, ygot, ycl⟩], true)
            rw [HS.out]; exact setS_go (beq_eq_false_iff_ne.1 e2)
          clear HS
          have := Later.some wr
          have q2 : ∀ s : Later wr, s.u.cell? ⟨b0, 2, none⟩ = some (.slice (some ⟨bl, off, none⟩) gs.length cc) := fun s => HC.out _ (hf.trans s.fr)
          have qk : ∀ s : Later wr, s.u.cell? ⟨b0 + 1, 0, none⟩ = some (.int .i64 ko) := fun s => (HK.out _ (hf.trans s.fr)).1
          have qd : ∀ s : Later wr, s.u.cell? ⟨bl, off + k * 5, none⟩ = some (.int .i64 yo) := fun s => (HD.out _ (hf.trans s.fr)).1
          refine wp_region_grown (by kernel_rfl) (by kernel_rfl) ?_
          repeat (go_big_quiet_step (fail))
          refine wpQuiet_nil ?_
          rintro _ ⟨s1, rfl⟩
          clear q2 qk qd
          go_wp2_with fail
          have := Later.some s1.u
          have q2 : ∀ s : Later s1.u, s.u.cell? ⟨b0, 2, none⟩ = some (.slice (some ⟨bl, off, none⟩) gs.length cc) := fun s => HC.out _ ((hf.trans s1.fr).trans s.fr)
          have qk : ∀ s : Later s1.u, s.u.cell? ⟨b0 + 1, 0, none⟩ = some (.int .i64 ko) := fun s => (HK.out _ ((hf.trans s1.fr).trans s.fr)).1
          have qd : ∀ s : Later s1.u, s.u.cell? ⟨bl, off + k * 5, none⟩ = some (.int .i64 yo) := fun s => (HD.out _ ((hf.trans s1.fr).trans s.fr)).1
          refine wp_region_grown (by kernel_rfl) (by kernel_rfl) ?_
          repeat (go_big_quiet_step (fail))
          refine wpQuiet_nil ?_
          rintro _ ⟨s2, rfl⟩
          clear q2 qk qd
          have f2 := (hf.trans s1.fr).trans s2.fr
          have z2 := f2.size
          obtain ⟨c20, c21, c22, c23, c24⟩ := HK.out _ f2
          obtain ⟨e20, e21, e22, e23, e24⟩ := HD.out _ f2
          have e25 := HC.out _ f2
          have o2 := (hown.fr s1.fr).fr s2.fr
          go_wp2_with (at_builtin; refine appC _ rfl _ _ rfl W.heap.size u5 ys ⟨yo, ycap, ysent, ygot, ycl⟩ rfl o2 rfl (by first | omega | (simp; omega)) z2 ?_; intro v6 w6 hv6 hg6)
          have g6 := (f2.trans (Fr.alloc _ _)).then hg6 o2.blk
          clear c20 c21 c22 c23 c24 e20 e21 e22 e23 e24 e25
          clear hg6
          go_roundw
          case rel => exact ⟨k + 1, _, _, by omega, by go_num, rfl, HN, by first | omega | (simp; omega), hv6, g6⟩
          case measure => simp [intOf]; omega
        · have HN : Hid (setP Ch.o ⟨ko, kcap, ksent, kgot, kcl⟩ false (gs.take (k + 1)) = (ys, true)) := by
            show setP Ch.o ⟨ko, kcap, ksent, kgot, kcl⟩ false (gs.take (k + 1)) = (ys, true)
            rw [HS.out]; exact setS_by (beq_iff_eq.1 e2)
          clear HS
          have := Later.some wr
          have q2 : ∀ s : Later wr, s.u.cell? ⟨b0, 2, none⟩ = some (.slice (some ⟨bl, off, none⟩) gs.length cc) := fun s => HC.out _ (hf.trans s.fr)
          have qk : ∀ s : Later wr, s.u.cell? ⟨b0 + 1, 0, none⟩ = some (.int .i64 ko) := fun s => (HK.out _ (hf.trans s.fr)).1
          have qd : ∀ s : Later wr, s.u.cell? ⟨bl, off + k * 5, none⟩ = some (.int .i64 yo) := fun s => (HD.out _ (hf.trans s.fr)).1
          refine wp_region_grown (by kernel_rfl) (by kernel_rfl) ?_
          repeat (go_big_quiet_step (fail))
          refine wpQuiet_nil ?_
          rintro _ ⟨s1, rfl⟩
          clear q2 qk qd
          go_wp2_with fail
          have := Later.some s1.u
          have q2 : ∀ s : Later s1.u, s.u.cell? ⟨b0, 2, none⟩ = some (.slice (some ⟨bl, off, none⟩) gs.length cc) := fun s => HC.out _ ((hf.trans s1.fr).trans s.fr)
          have qk : ∀ s : Later s1.u, s.u.cell? ⟨b0 + 1, 0, none⟩ = some (.int .i64 ko) := fun s => (HK.out _ ((hf.trans s1.fr).trans s.fr)).1
          have qd : ∀ s : Later s1.u, s.u.cell? ⟨bl, off + k * 5, none⟩ = some (.int .i64 yo) := fun s => (HD.out _ ((hf.trans s1.fr).trans s.fr)).1
          refine wp_region_grown (by kernel_rfl) (by kernel_rfl) ?_
          repeat (go_big_quiet_step (fail))
          refine wpQuiet_nil ?_
          rintro _ ⟨s2, rfl⟩
          clear q2 qk qd
          go_wp2_with fail
          go_roundw
          case rel => exact ⟨k + 1, _, _, by omega, by go_num, rfl, HN, by first | omega | (simp; omega), (hown.fr s1.fr).fr s2.fr, (hf.trans s1.fr).trans s2.fr⟩
          case measure => simp [intOf]; omega
    · have et : k = gs.length := by omega
      subst et
      rw [List.take_length] at HP
      cases b
      · have HN : Hid ((setCh m ⟨ko, kcap, ksent, kgot, kcl⟩).cs = ys ++ [⟨ko, kcap, ksent, kgot, kcl⟩]) := by
          show setL Ch.o ⟨ko, kcap, ksent, kgot, kcl⟩ false m.cs = ys ++ [⟨ko, kcap, ksent, kgot, kcl⟩]
          rw [HG.out]; exact setL_end HP.out
        clear HP
        obtain ⟨e0, e1, e2, e3, e4⟩ := HK.out _ hf
        go_wp2_with (at_builtin; refine appC _ rfl _ _ rfl W.heap.size u5 ys ⟨ko, kcap, ksent, kgot, kcl⟩ rfl hown rfl (by omega) hs ?_; intro v1 w4 hv1 hg1; have f4 := (hf.trans (Fr.alloc _ _)).then hg1 hbk; obtain ⟨gg, cg, rfl, hw, hwl⟩ := hv1; obtain ⟨i0, i1, i2, i3, i4⟩ := (k1.fr f4).at; obtain ⟨j0, j1, j2, j3, j4⟩ := (k2.fr f4).at; have v0 := (k1.fr f4).free 2; have v1 := fun i => (k2.fr f4).free i; simp only at i0 i1 i2 i3 i4 j0 j1 j2 j3 j4; clear hg1 c2 e0 e1 e2 e3 e4)
        refine bodyPost_ret (v := .agg #[.int .i64 g, .slice lo ll lc, .slice (some ⟨gg, 0, none⟩) (ys.length + 1) cg, .slice no nl nc, .slice oo ol oc]) (by simp [results, Tryz.results168, go_sem, j0, j1, j2, j3, j4]) rfl ⟨⟨g, lo, ll, lc, some ⟨gg, 0, none⟩, (ys.length + 1), cg, no, nl, nc, oo, ol, oc⟩, rfl, ?_, ?_⟩
        · have hF := set_fin (i := 2) (x := .slice (some ⟨gg, 0, none⟩) (ys.length + 1) cg) (v0 := .int .i64 g) (v1 := .slice lo ll lc) (v2 := .slice (some ⟨gg, 0, none⟩) (ys.length + 1) cg) (v3 := .slice no nl nc) (v4 := .slice oo ol oc) fW f4 (Nat.le_of_eq HB.out.symm) (rb := b0 + 1 + 1) (by have := HB.out; omega) (by have := HZ.out; omega) (by have := HZ.out; omega) ⟨gg, cg, rfl, hw, hwl⟩
          have ha := hF.2.at
          exact ScR.chans (HR.out.mono Grew.old) hF.1 (.inr ⟨by have := HZ.out; have := HB.out; have := ha.2.2; omega, hF.2.lt _ rfl⟩) hK (by rw [HG.out]; exact hl) (by rw [HN.out]; exact ha.1) (by rw [HN.out]; simp)
        · exact (set_fin fW f4 (Nat.le_of_eq HB.out.symm) (rb := b0 + 1 + 1) (by have := HB.out; omega) (by have := HZ.out; omega) (by have := HZ.out; omega) ⟨gg, cg, rfl, hw, hwl⟩).1
      · have HN : Hid ((setCh m ⟨ko, kcap, ksent, kgot, kcl⟩).cs = ys) := by
          show setL Ch.o ⟨ko, kcap, ksent, kgot, kcl⟩ false m.cs = ys
          rw [HG.out]; exact setL_in HP.out
        clear HP
        obtain ⟨gg, cg, rfl, hw, hwl⟩ := hown
        obtain ⟨i0, i1, i2, i3, i4⟩ := (k1.fr hf).at
        obtain ⟨j0, j1, j2, j3, j4⟩ := (k2.fr hf).at
        have v0 := (k1.fr hf).free 2
        have v1 := fun i => (k2.fr hf).free i
        simp only at i0 i1 i2 i3 i4 j0 j1 j2 j3 j4
        clear c2
        go_wp2_with fail
        refine bodyPost_ret (v := .agg #[.int .i64 g, .slice lo ll lc, .slice (some ⟨gg, 0, none⟩) ys.length cg, .slice no nl nc, .slice oo ol oc]) (by simp [results, Tryz.results168, go_sem, j0, j1, j2, j3, j4]) rfl ⟨⟨g, lo, ll, lc, some ⟨gg, 0, none⟩, ys.length, cg, no, nl, nc, oo, ol, oc⟩, rfl, ?_, ?_⟩
        · have hF := set_fin (i := 2) (x := .slice (some ⟨gg, 0, none⟩) ys.length cg) (v0 := .int .i64 g) (v1 := .slice lo ll lc) (v2 := .slice (some ⟨gg, 0, none⟩) ys.length cg) (v3 := .slice no nl nc) (v4 := .slice oo ol oc) fW hf (Nat.le_of_eq HB.out.symm) (rb := b0 + 1 + 1) (by have := HB.out; omega) (by have := HZ.out; omega) (by have := HZ.out; omega) ⟨gg, cg, rfl, hw, hwl⟩
          have ha := hF.2.at
          exact ScR.chans (HR.out.mono Grew.old) hF.1 (.inr ⟨by have := HZ.out; have := HB.out; have := ha.2.2; omega, hF.2.lt _ rfl⟩) hK (by rw [HG.out]; exact hl) (by rw [HN.out]; exact ha.1) (by rw [HN.out])
        · exact (set_fin fW hf (Nat.le_of_eq HB.out.symm) (rb := b0 + 1 + 1) (by have := HB.out; omega) (by have := HZ.out; omega) (by have := HZ.out; omega) ⟨gg, cg, rfl, hw, hwl⟩).1
end Go.Proofs.YtcofhmikdkkigaaGreatDoor
