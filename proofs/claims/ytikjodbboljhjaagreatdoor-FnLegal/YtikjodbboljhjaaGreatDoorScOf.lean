/-
  Look-ups in a scene: l4CountOf, l4LockOf, l4ChanOf.
-/
import Derived.Test.YtikjodbboljhjaaGreatDoorSc
namespace Go.Proofs.YtikjodbboljhjaaGreatDoor
open Go.RowKit

theorem count_yes (gs : List Ct) (o : Int) (k : Nat) (hk : k < gs.length) (h : ∀ j (hj : j < gs.length), j < k → (gs[j].o == o) = false) (he : (gs[k].o == o) = true) : countOf gs o = gs[k].n := by
  rw [countOf, find_at _ gs k hk h he]; rfl
theorem count_no (gs : List Ct) (o : Int) (h : ∀ j (hj : j < gs.length), (gs[j].o == o) = false) : countOf gs o = 0 := by
  rw [countOf, find_none _ gs h]; rfl
theorem upto_step {α : Type} (p : α → Bool) (xs : List α) (k : Nat) (h : ∀ j (hj : j < xs.length), j < k → p xs[j] = false) (hk : k < xs.length) (he : p xs[k] = false) : ∀ j (hj : j < xs.length), j < k + 1 → p xs[j] = false := by
  intro j hj hjk
  by_cases e : j = k
  · subst e; exact he
  · exact h j hj (by omega)

set_option maxHeartbeats 600000 in
theorem l4CountOf_any {B : Nat → Prop} (s : Sv) (m : Scn) (o : Int) (w : World) (h : ScR B w s m) :
    Calls Tryz.prog 43 #[.agg #[.int .i64 s.g, .slice s.lo s.ll s.lc, .slice s.co s.cl s.cc, .slice s.no s.nl s.nc, .slice s.oo s.ol s.oc], .int .i64 o] w fun e w' => e = .returned (.int .i64 (countOf m.gs o)) ∧ Fr w w' := by
  have hr := h.cts
  have hl := h.sn
  have hn := h.nl
  clear h
  obtain ⟨g, lo, ll, lc, co, cl, cc, no, nl, nc, oo, ol, oc⟩ := s
  simp only at hr hn ⊢
  subst hn
  obtain ⟨gs, hgs⟩ : ∃ gs, gs = m.gs := ⟨_, rfl⟩
  rw [← hgs] at hr hl ⊢
  clear hgs
  have c3 := (ScB.new w ⟨g, lo, ll, lc, co, cl, cc, no, gs.length, nc, oo, ol, oc⟩).c3
  simp only at c3
  have hr := hr.fr (Fr.alloc w (.cells #[.int .i64 g, .slice lo ll lc, .slice co cl cc, .slice no gs.length nc, .slice oo ol oc] 29))
  go_enter Tryz.func43, Tryz.ntmps43
  go_wp2
  go_loop [5] (fun i => ∃ k : Nat, k ≤ gs.length ∧ i = .int .i64 k ∧ Hid (∀ j (hj : j < gs.length), j < k → (gs[j].o == o) = false)) (fun i => gs.length - (intOf i).toNat)
  case atStart => exact ⟨0, Nat.zero_le _, rfl, fun j hj hk => by omega⟩
  case round =>
    obtain ⟨k, hk, rfl, HA⟩ := hrel
    by_cases hlt : k < gs.length
    · obtain ⟨b, off, rfl, d0, d1⟩ := ct_at hr k hlt
      cases hb : (gs[k].o == o)
      · have HS : Hid (∀ j (hj : j < gs.length), j < k + 1 → (gs[j].o == o) = false) := upto_step (fun c : Ct => c.o == o) gs k HA.out hlt hb
        go_wp2
        go_round
        case rel => exact ⟨k + 1, by omega, by go_num, HS⟩
        case measure => simp [intOf]; omega
      · have HE : Hid (countOf gs o = gs[k].n) := count_yes gs o k hlt HA.out hb
        go_wp2
        go_ret
        exact ⟨ret_int HE.out.symm, Fr.alloc _ _⟩
    · have HN : Hid (countOf gs o = 0) := count_no gs o (fun j hj => HA.out j hj (by omega))
      go_wp2
      go_ret
      exact ⟨ret_int HN.out.symm, Fr.alloc _ _⟩
theorem lock_yes (ls : List Lk) (o : Int) (k : Nat) (hk : k < ls.length) (h : ∀ j (hj : j < ls.length), j < k → (ls[j].o == o) = false) (he : (ls[k].o == o) = true) : lockOf ls o = ls[k] := by
  rw [lockOf, find_at _ ls k hk h he]; rfl
theorem lock_no (ls : List Lk) (o : Int) (h : ∀ j (hj : j < ls.length), (ls[j].o == o) = false) : lockOf ls o = ⟨o, -1, []⟩ := by
  rw [lockOf, find_none _ ls h]; rfl
theorem i64_m1 : I64 (-1) := ⟨by decide, by decide⟩
/-- A lock's three cells. -/
theorem lvB_new (w : World) (l : Lv) : (w.alloc (.cells #[.int .i64 l.o, .int .i64 l.wr, .slice l.ro l.rn l.rc] 47)).cell? ⟨w.heap.size, 0, none⟩ = some (.int .i64 l.o) ∧ (w.alloc (.cells #[.int .i64 l.o, .int .i64 l.wr, .slice l.ro l.rn l.rc] 47)).cell? ⟨w.heap.size, 1, none⟩ = some (.int .i64 l.wr) ∧ (w.alloc (.cells #[.int .i64 l.o, .int .i64 l.wr, .slice l.ro l.rn l.rc] 47)).cell? ⟨w.heap.size, 2, none⟩ = some (.slice l.ro l.rn l.rc) :=
  ⟨by simp [go_sem], by simp [go_sem], by simp [go_sem]⟩

set_option maxHeartbeats 600000 in
theorem l4LockOf_any {B : Nat → Prop} (s : Sv) (m : Scn) (o : Int) (w : World) (ho : I64 o) (h : ScR B w s m) :
    Calls Tryz.prog 109 #[.agg #[.int .i64 s.g, .slice s.lo s.ll s.lc, .slice s.co s.cl s.cc, .slice s.no s.nl s.nc, .slice s.oo s.ol s.oc], .int .i64 o] w fun e w' => ∃ lv : Lv, e = .returned (.agg #[.int .i64 lv.o, .int .i64 lv.wr, .slice lv.ro lv.rn lv.rc]) ∧ LkR B w' lv (lockOf m.ls o) ∧ Fr w w' := by
  obtain ⟨lvs, hr, hn, hL⟩ := h.lks
  have hl := h.sl
  clear h
  obtain ⟨g, lo, ll, lc, co, cl, cc, no, nl, nc, oo, ol, oc⟩ := s
  simp only at hr hn ⊢
  subst hn
  obtain ⟨ls, hls⟩ : ∃ ls, ls = m.ls := ⟨_, rfl⟩
  rw [← hls] at hL hl ⊢
  clear hls
  have c1 := (Fr.alloc (w.alloc (.cells #[.int .i64 g, .slice lo lvs.length lc, .slice co cl cc, .slice no nl nc, .slice oo ol oc] 29)) (.cells #[.int .i64 0, .int .i64 0, .slice none 0 0] 47)).cell (ScB.new w ⟨g, lo, lvs.length, lc, co, cl, cc, no, nl, nc, oo, ol, oc⟩).c1
  simp only at c1
  have f2 := (Fr.alloc w (.cells #[.int .i64 g, .slice lo lvs.length lc, .slice co cl cc, .slice no nl nc, .slice oo ol oc] 29)).trans (Fr.alloc _ (.cells #[.int .i64 0, .int .i64 0, .slice none 0 0] 47))
  have hr := hr.fr f2
  go_enter Tryz.func109, Tryz.ntmps109
  go_wp2
  go_loop [5] (fun i => ∃ k : Nat, k ≤ lvs.length ∧ i = .int .i64 k ∧ Hid (∀ j (hj : j < ls.length), j < k → (ls[j].o == o) = false)) (fun i => lvs.length - (intOf i).toNat)
  case atStart => exact ⟨0, Nat.zero_le _, rfl, fun j hj hk => by omega⟩
  case round =>
    obtain ⟨k, hk, rfl, HA⟩ := hrel
    by_cases hlt : k < lvs.length
    · obtain ⟨b, off, rfl, d0, d1, d2⟩ := lv_at hr k hlt
      have hk2 : k < ls.length := by have := hL.len; omega
      have hLk := hL.at_ k hlt hk2
      have ee := hLk.o
      obtain ⟨lv, hlv⟩ : ∃ lv, lv = lvs[k] := ⟨_, rfl⟩
      rw [← hlv] at d0 d1 d2 hLk ee
      clear hlv
      cases hb : (lv.o == o)
      · have HS : Hid (∀ j (hj : j < ls.length), j < k + 1 → (ls[j].o == o) = false) := upto_step (fun c : Lk => c.o == o) ls k HA.out hk2 (by rw [← ee]; exact hb)
        clear ee hLk
        go_wp2
        go_round
        case rel => exact ⟨k + 1, by omega, by go_num, HS⟩
        case measure => simp [intOf]; omega
      · have HE : Hid (lockOf ls o = ls[k]) := lock_yes ls o k hk2 HA.out (by rw [← ee]; exact hb)
        clear ee
        go_wp2
        refine bodyPost_ret (v := .agg #[.int .i64 lv.o, .int .i64 lv.wr, .slice lv.ro lv.rn lv.rc]) (by simp [results, Tryz.results109, go_sem]) rfl ⟨lv, rfl, ?_, (Fr.alloc _ _).trans (Fr.alloc _ _)⟩
        rw [HE.out]
        exact hLk.fr ((Fr.alloc _ _).trans (Fr.alloc _ _))
    · have HN : Hid (lockOf ls o = ⟨o, -1, []⟩) := lock_no ls o (fun j hj => HA.out j hj (by have := hL.len; omega))
      go_wp2
      refine bodyPost_ret (v := .agg #[.int .i64 o, .int .i64 (-1), .slice none 0 0]) (by simp [results, Tryz.results109, go_sem]) rfl ⟨⟨o, -1, none, 0, 0⟩, rfl, ?_, (Fr.alloc _ _).trans (Fr.alloc _ _)⟩
      rw [HN.out]
      exact ⟨rfl, rfl, rfl, Reads.nil _ _, fun b hb => by simp [blk] at hb, fun _ => rfl, by simp, ho, i64_m1⟩
theorem chan_yes (cs : List Ch) (o : Int) (k : Nat) (hk : k < cs.length) (h : ∀ j (hj : j < cs.length), j < k → (cs[j].o == o) = false) (he : (cs[k].o == o) = true) : chanOf cs o = cs[k] ∧ isChan cs o = true := by
  rw [chanOf, isChan, find_at _ cs k hk h he]; exact ⟨rfl, rfl⟩
theorem chan_no (cs : List Ch) (o : Int) (h : ∀ j (hj : j < cs.length), (cs[j].o == o) = false) : chanOf cs o = ⟨o, 0, 0, 0, false⟩ ∧ isChan cs o = false := by
  rw [chanOf, isChan, find_none _ cs h]; exact ⟨rfl, rfl⟩

set_option maxHeartbeats 600000 in
theorem l4ChanOf_any {B : Nat → Prop} (s : Sv) (m : Scn) (o : Int) (w : World) (h : ScR B w s m) :
    Calls Tryz.prog 110 #[.agg #[.int .i64 s.g, .slice s.lo s.ll s.lc, .slice s.co s.cl s.cc, .slice s.no s.nl s.nc, .slice s.oo s.ol s.oc], .int .i64 o] w fun e w' => e = .returned (.tuple #[.agg #[.int .i64 (chanOf m.cs o).o, .int .i64 (chanOf m.cs o).cap, .int .i64 (chanOf m.cs o).sent, .int .i64 (chanOf m.cs o).got, .bool (chanOf m.cs o).cl], .bool (isChan m.cs o)]) ∧ Fr w w' := by
  have hr := h.chs
  have hl := h.sc
  have hn := h.cl
  clear h
  obtain ⟨g, lo, ll, lc, co, cl, cc, no, nl, nc, oo, ol, oc⟩ := s
  simp only at hr hn ⊢
  subst hn
  obtain ⟨cs, hcs⟩ : ∃ cs, cs = m.cs := ⟨_, rfl⟩
  rw [← hcs] at hr hl ⊢
  clear hcs
  have c2 := (Fr.alloc (w.alloc (.cells #[.int .i64 g, .slice lo ll lc, .slice co cs.length cc, .slice no nl nc, .slice oo ol oc] 29)) (.cells #[.int .i64 0, .int .i64 0, .int .i64 0, .int .i64 0, .bool false] 82)).cell (ScB.new w ⟨g, lo, ll, lc, co, cs.length, cc, no, nl, nc, oo, ol, oc⟩).c2
  simp only at c2
  have f2 := (Fr.alloc w (.cells #[.int .i64 g, .slice lo ll lc, .slice co cs.length cc, .slice no nl nc, .slice oo ol oc] 29)).trans (Fr.alloc _ (.cells #[.int .i64 0, .int .i64 0, .int .i64 0, .int .i64 0, .bool false] 82))
  have hr := hr.fr f2
  go_enter Tryz.func110, Tryz.ntmps110
  go_wp2
  go_loop [6] (fun i => ∃ k : Nat, k ≤ cs.length ∧ i = .int .i64 k ∧ Hid (∀ j (hj : j < cs.length), j < k → (cs[j].o == o) = false)) (fun i => cs.length - (intOf i).toNat)
  case atStart => exact ⟨0, Nat.zero_le _, rfl, fun j hj hk => by omega⟩
  case round =>
    obtain ⟨k, hk, rfl, HA⟩ := hrel
    by_cases hlt : k < cs.length
    · obtain ⟨b, off, rfl, d0, d1, d2, d3, d4⟩ := ch_at hr k hlt
      have HZ : Hid (cs[k] = cs[k]) := rfl
      cases hb : (cs[k].o == o)
      · have HS : Hid (∀ j (hj : j < cs.length), j < k + 1 → (cs[j].o == o) = false) := upto_step (fun c : Ch => c.o == o) cs k HA.out hlt hb
        go_wp2
        go_round
        case rel => exact ⟨k + 1, by omega, by go_num, HS⟩
        case measure => simp [intOf]; omega
      · have HE : Hid (chanOf cs o = cs[k] ∧ isChan cs o = true) := chan_yes cs o k hlt HA.out hb
        obtain ⟨c, hc⟩ : ∃ c, c = cs[k] := ⟨_, rfl⟩
        rw [← hc] at d0 d1 d2 d3 d4 HE hb
        clear hc HZ
        go_wp2
        refine bodyPost_ret (v := .tuple #[.agg #[.int .i64 c.o, .int .i64 c.cap, .int .i64 c.sent, .int .i64 c.got, .bool c.cl], .bool true]) (by simp [results, Tryz.results110, go_sem]) rfl ⟨by rw [HE.out.1, HE.out.2], (Fr.alloc _ _).trans (Fr.alloc _ _)⟩
    · have HN : Hid (chanOf cs o = ⟨o, 0, 0, 0, false⟩ ∧ isChan cs o = false) := chan_no cs o (fun j hj => HA.out j hj (by omega))
      go_wp2
      refine bodyPost_ret (v := .tuple #[.agg #[.int .i64 o, .int .i64 0, .int .i64 0, .int .i64 0, .bool false], .bool false]) (by simp [results, Tryz.results110, go_sem]) rfl ⟨by rw [HN.out.1, HN.out.2], (Fr.alloc _ _).trans (Fr.alloc _ _)⟩
end Go.Proofs.YtikjodbboljhjaaGreatDoor
