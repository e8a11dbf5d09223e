/-
  Pack CA: ScMarkW, ScAfter, ScDone, MkyK.
-/
import Derived.Test.YtplnijpolkflcaaGreatDoorPqBY
import Derived.Test.YtplnijpolkflcaaGreatDoorPqBP
import Derived.Test.YtplnijpolkflcaaGreatDoorPqAM
import Derived.Test.YtplnijpolkflcaaGreatDoorPqBZ
namespace Go.Proofs.YtplnijpolkflcaaGreatDoor
open Go.RowKit

def Mkd (S : Nat → Prop) (w w' : World) : Prop := FrS S w w' ∧ Shp w w'
theorem Mkd.refl (S : Nat → Prop) (w : World) : Mkd S w w := ⟨FrS.refl S w, Shp.refl w⟩
theorem Mkd.trans {S : Nat → Prop} {a b c : World} (h : Mkd S a b) (k : Mkd S b c) : Mkd S a c := ⟨h.1.trans k.1, h.2.trans k.2⟩
theorem Mkd.set {S : Nat → Prop} {a b : World} (h : Mkd S a b) (g i : Nat) (v : Value) (hg : S g) : Mkd S a (b.setCell ⟨g, i, none⟩ v) := h.trans ⟨grown_toS (grown_set b g i v) hg, shp_set b g i v⟩
theorem Mkd.mono {S S' : Nat → Prop} {a b : World} (h : Mkd S a b) (hs : ∀ x, S x → S' x) : Mkd S' a b :=
  ⟨⟨h.1.os, h.1.tape, h.1.output, h.1.size, fun k hk hn => h.1.block k hk (fun q => hn (hs k q))⟩, h.2⟩

set_option maxHeartbeats 400000 in
theorem markI_wk (ao : Option Addr) (n cap : Nat) (q : Int) (w : World) (hl : n ≤ 1048576) (q0 : 0 ≤ q) (q1 : q ≤ 1125899906842624) (h : Wt w ao n 1) :
    Calls Tryz.prog 44 #[.slice ao n cap, .int .i64 q] w fun e w' => e = .returned (.int .i64 (q + (n : Int))) ∧ Mkd (fun x => blk ao = some x) w w' := by
  obtain ⟨g, T, cur, rfl, hcur, hsz⟩ := id h
  clear hcur hsz
  go_enter Tryz.func44, Tryz.ntmps44
  go_wp2
  go_loopw [1, 5] (fun c i wr => ∃ k : Nat, k ≤ n ∧ i = .int .i64 k ∧ c = .int .i64 (q + (k : Int)) ∧ Hid (Mkd (fun x => blk (some (⟨g, 0, none⟩ : Addr)) = some x) w wr)) (fun _ i _ => n - (intOf i).toNat)
  case atStart => exact ⟨0, Nat.zero_le _, rfl, by simp, Mkd.refl _ _⟩
  case round =>
    obtain ⟨k, hk, rfl, rfl, HM⟩ := hrel
    by_cases hlt : k < n
    · obtain ⟨⟨v0, d0⟩, z0⟩ := (h.shp HM.out.2).cell (i := k) (by omega)
      have hi : (k : Int) < n := by omega
      go_wp2
      go_roundw
      case rel => exact ⟨k + 1, by omega, by go_num, by simp; omega, HM.out.set g _ _ rfl⟩
      case measure => simp [intOf]; omega
    · have e : k = n := by omega
      subst e
      go_wp2
      go_ret
      exact ⟨rfl, HM.out⟩

set_option maxRecDepth 20000 in
set_option maxHeartbeats 1000000 in
theorem markC_wk (ao : Option Addr) (n cap : Nat) (q : Int) (w : World) (hl : n ≤ 1048576) (q0 : 0 ≤ q) (q1 : q ≤ 1125899906842624) (h : Wt w ao n 5) :
    Calls Tryz.prog 94 #[.slice ao n cap, .int .i64 q] w fun e w' => e = .returned (.int .i64 (q + 5 * (n : Int))) ∧ Mkd (fun x => blk ao = some x) w w' := by
  obtain ⟨g, T, cur, rfl, hcur, hsz⟩ := id h
  clear hcur hsz
  go_enter Tryz.func94, Tryz.ntmps94
  go_wp2_with fail
  go_loopw [1, 5] (fun c i wr => ∃ k : Nat, k ≤ n ∧ i = .int .i64 k ∧ c = .int .i64 (q + 5 * (k : Int)) ∧ Hid (Mkd (fun x => blk (some (⟨g, 0, none⟩ : Addr)) = some x) w wr)) (fun _ i _ => n - (intOf i).toNat)
  case atStart => exact ⟨0, Nat.zero_le _, rfl, by simp, Mkd.refl _ _⟩
  case round =>
    obtain ⟨k, hk, rfl, rfl, HM⟩ := hrel
    by_cases hlt : k < n
    · have hw := h.shp HM.out.2
      obtain ⟨⟨v0, d0⟩, z0⟩ := hw.cell (i := k * 5) (by omega)
      obtain ⟨⟨v1, d1⟩, z1⟩ := hw.cell (i := k * 5 + 1) (by omega)
      obtain ⟨⟨v2, d2⟩, z2⟩ := hw.cell (i := k * 5 + 2) (by omega)
      obtain ⟨⟨v3, d3⟩, z3⟩ := hw.cell (i := k * 5 + 3) (by omega)
      obtain ⟨⟨v4, d4⟩, z4⟩ := hw.cell (i := k * 5 + 4) (by omega)
      have hi : (k : Int) < n := by omega
      have HQ : Hid (q + 5 * (k : Int) ≤ 1125899920000000 ∧ 0 ≤ q + 5 * (k : Int)) := ⟨by omega, by omega⟩
      obtain ⟨K, hK⟩ : ∃ K, K = q + 5 * (k : Int) := ⟨_, rfl⟩
      rw [← hK] at HQ ⊢
      have HK : Hid (K = q + 5 * (k : Int)) := hK
      have hKb := HQ.out
      clear hK hw
      go_wp2_with fail
      go_roundw
      case rel => exact ⟨k + 1, by omega, by go_num, by have := HK.out; go_num, ((((HM.out.set g _ _ rfl).set g _ _ rfl).set g _ _ rfl).set g _ _ rfl).set g _ _ rfl⟩
      case measure => simp [intOf]; omega
    · have e : k = n := by omega
      subst e
      go_wp2_with fail
      go_ret
      exact ⟨rfl, HM.out⟩

set_option maxRecDepth 20000 in
set_option maxHeartbeats 1000000 in
theorem markN_wk (ao : Option Addr) (n cap : Nat) (q : Int) (w : World) (hl : n ≤ 1048576) (q0 : 0 ≤ q) (q1 : q ≤ 1125899906842624) (h : Wt w ao n 2) :
    Calls Tryz.prog 95 #[.slice ao n cap, .int .i64 q] w fun e w' => e = .returned (.int .i64 (q + 2 * (n : Int))) ∧ Mkd (fun x => blk ao = some x) w w' := by
  obtain ⟨g, T, cur, rfl, hcur, hsz⟩ := id h
  clear hcur hsz
  go_enter Tryz.func95, Tryz.ntmps95
  go_wp2_with fail
  go_loopw [1, 5] (fun c i wr => ∃ k : Nat, k ≤ n ∧ i = .int .i64 k ∧ c = .int .i64 (q + 2 * (k : Int)) ∧ Hid (Mkd (fun x => blk (some (⟨g, 0, none⟩ : Addr)) = some x) w wr)) (fun _ i _ => n - (intOf i).toNat)
  case atStart => exact ⟨0, Nat.zero_le _, rfl, by simp, Mkd.refl _ _⟩
  case round =>
    obtain ⟨k, hk, rfl, rfl, HM⟩ := hrel
    by_cases hlt : k < n
    · have hw := h.shp HM.out.2
      obtain ⟨⟨v0, d0⟩, z0⟩ := hw.cell (i := k * 2) (by omega)
      obtain ⟨⟨v1, d1⟩, z1⟩ := hw.cell (i := k * 2 + 1) (by omega)
      have hi : (k : Int) < n := by omega
      have HQ : Hid (q + 2 * (k : Int) ≤ 1125899920000000 ∧ 0 ≤ q + 2 * (k : Int)) := ⟨by omega, by omega⟩
      obtain ⟨K, hK⟩ : ∃ K, K = q + 2 * (k : Int) := ⟨_, rfl⟩
      rw [← hK] at HQ ⊢
      have HK : Hid (K = q + 2 * (k : Int)) := hK
      have hKb := HQ.out
      clear hK hw
      go_wp2_with fail
      go_roundw
      case rel => exact ⟨k + 1, by omega, by go_num, by have := HK.out; go_num, (HM.out.set g _ _ rfl).set g _ _ rfl⟩
      case measure => simp [intOf]; omega
    · have e : k = n := by omega
      subst e
      go_wp2_with fail
      go_ret
      exact ⟨rfl, HM.out⟩

theorem lv_ro {w : World} {g : Nat} {zs : List Lv} (h : ReadsG layL w (some ⟨g, 0, none⟩) zs) (k : Nat) (hk : k < zs.length) : w.cell? ⟨g, k * 3 + 2, none⟩ = some (.slice zs[k].ro zs[k].rn zs[k].rc) := by
  obtain ⟨b, off, e, -, -, d2⟩ := lv_at h k hk
  simp only [Option.some.injEq, Addr.mk.injEq, and_true] at e
  obtain ⟨rfl, rfl⟩ := e
  simpa using d2

set_option maxRecDepth 20000 in
set_option maxHeartbeats 1000000 in
theorem markL_wk (ao : Option Addr) (n cap : Nat) (q : Int) (zs : List Lv) (w : World) (hn : n = zs.length) (hl : n ≤ 1048576) (hrn : ∀ z ∈ zs, z.rn ≤ 1048576) (q0 : 0 ≤ q) (q1 : q ≤ 1000000) (h : Wt w ao n 3) (hR : ReadsG layL w ao zs) (hz : ∀ z ∈ zs, Wt w z.ro z.rn 1 ∧ ∀ b, blk z.ro = some b → blk ao ≠ some b) :
    Calls Tryz.prog 93 #[.slice ao n cap, .int .i64 q] w fun e w' => ∃ r : Int, e = .returned (.int .i64 r) ∧ 0 ≤ r ∧ r ≤ 1100000000000 ∧ Mkd (fun x => blk ao = some x ∨ ∃ z ∈ zs, blk z.ro = some x) w w' := by
  subst hn
  obtain ⟨g, T, cur, rfl, hcur, hsz⟩ := id h
  clear hcur hsz
  go_enter Tryz.func93, Tryz.ntmps93
  go_wp2_with fail
  go_loopw [1, 5] (fun c i wr => ∃ (k : Nat) (r : Int), k ≤ zs.length ∧ i = .int .i64 k ∧ c = .int .i64 r ∧ 0 ≤ r ∧ r ≤ 1000000 + 1048578 * (k : Int) ∧ Hid (Mkd (fun x => blk (some (⟨g, 0, none⟩ : Addr)) = some x ∨ ∃ z ∈ zs, blk z.ro = some x) w wr ∧ ∀ j (hj : j < zs.length), wr.cell? ⟨g, j * 3 + 2, none⟩ = some (.slice zs[j].ro zs[j].rn zs[j].rc))) (fun _ i _ => zs.length - (intOf i).toNat)
  case atStart => exact ⟨0, q, Nat.zero_le _, rfl, rfl, q0, by omega, ⟨Mkd.refl _ _, fun j hj => lv_ro hR j hj⟩⟩
  case round =>
    obtain ⟨k, r, hk, rfl, rfl, hr0, hr1, HM⟩ := hrel
    by_cases hlt : k < zs.length
    · have hw := h.shp HM.out.1.2
      obtain ⟨⟨v0, d0⟩, z0⟩ := hw.cell (i := k * 3) (by omega)
      obtain ⟨⟨v1, d1⟩, z1⟩ := hw.cell (i := k * 3 + 1) (by omega)
      have d2 := HM.out.2 k hlt
      have hzk := hz zs[k] (List.getElem_mem hlt)
      have hrk := hrn zs[k] (List.getElem_mem hlt)
      have hi : (k : Int) < zs.length := by omega
      have HS : Hid (∀ a b, Mkd (fun x => blk (some (⟨g, 0, none⟩ : Addr)) = some x ∨ ∃ z ∈ zs, blk z.ro = some x) w ((wr.setCell ⟨g, k * 3, none⟩ a).setCell ⟨g, k * 3 + 1, none⟩ b)) := fun a b => (HM.out.1.set g _ _ (.inl rfl)).set g _ _ (.inl rfl)
      have HC : Hid (∀ a b j (hj : j < zs.length), ((wr.setCell ⟨g, k * 3, none⟩ a).setCell ⟨g, k * 3 + 1, none⟩ b).cell? ⟨g, j * 3 + 2, none⟩ = some (.slice zs[j].ro zs[j].rn zs[j].rc)) := fun a b j hj => by
        rw [World.cell?_setCell_other _ _ _ _ (by intro e; injection e; omega), World.cell?_setCell_other _ _ _ _ (by intro e; injection e; omega)]
        exact HM.out.2 j hj
      have cI := fun a b => markI_wk zs[k].ro zs[k].rn zs[k].rc (r + 1 + 1) ((wr.setCell ⟨g, k * 3, none⟩ a).setCell ⟨g, k * 3 + 1, none⟩ b) hrk (by omega) (by omega) (hzk.1.shp (HS.out a b).2)
      have HB : Hid (∀ b, blk zs[k].ro = some b → (blk zs[k].ro = some b ∧ b ≠ g)) := fun b q => ⟨q, fun e => hzk.2 b q (by rw [e]; rfl)⟩
      have HZM : Hid (zs[k] ∈ zs) := List.getElem_mem hlt
      obtain ⟨z, hzz⟩ : ∃ z, z = zs[k] := ⟨_, rfl⟩
      rw [← hzz] at d2 hzk hrk HB HZM
      simp only [← hzz] at cI
      clear hzz hw hzk
      go_wp2_with fail
      refine (cI _ _).mono ?_
      rintro x u2 ⟨rfl, M2⟩
      have HM2 := (HS.out (.int .i64 r) (.int .i64 (r + 1))).trans (M2.mono (fun x q => .inr ⟨z, HZM.out, q⟩))
      have HC2 : Hid (∀ j (hj : j < zs.length), u2.cell? ⟨g, j * 3 + 2, none⟩ = some (.slice zs[j].ro zs[j].rn zs[j].rc)) := fun j hj => M2.1.cell (HC.out (.int .i64 r) (.int .i64 (r + 1)) j hj) (fun q => (HB.out g q).2 rfl)
      have HM2 : Hid _ := HM2
      clear d0 d1 d2 z0 z1 cI M2
      go_wp2_with fail
      go_roundw
      case rel => exact ⟨k + 1, r + 1 + 1 + (z.rn : Int), by omega, by go_num, by go_num, by omega, by push_cast; omega, ⟨HM2.out, HC2.out⟩⟩
      case measure => simp [intOf]; omega
    · go_wp2_with fail
      go_ret
      exact ⟨r, rfl, hr0, by omega, HM.out.1⟩

set_option maxHeartbeats 1000000 in
theorem markScene_wk {lo0 hi0 : Nat} (s : Sv) (m : Scn) (w : World) (hR : ScR (fun b => lo0 ≤ b ∧ b < hi0) w s m) (h : Wsc lo0 hi0 w s) (hh : hi0 ≤ w.heap.size) :
    Calls Tryz.prog 36 #[.agg #[.int .i64 s.g, .slice s.lo s.ll s.lc, .slice s.co s.cl s.cc, .slice s.no s.nl s.nc, .slice s.oo s.ol s.oc], .int .i64 1] w fun e w' => ∃ r : Int, e = .returned (.int .i64 r) ∧ 0 ≤ r ∧ FrS (fun b => lo0 ≤ b ∧ b < hi0) w w' := by
  obtain ⟨h1, h2, h3, h4, zs, h5, h6, h7⟩ := h
  obtain ⟨lvs, r1, n1, L1⟩ := hR.lks
  have hb1 : s.ll ≤ 1048576 := by have := hR.sl; have := L1.len; omega
  have hb2 : s.cl ≤ 1048576 := by rw [hR.cl]; exact hR.sc
  have hb3 : s.nl ≤ 1048576 := by rw [hR.nl]; exact hR.sn
  have hb4 : s.ol ≤ 1048576 := by rw [hR.ol]; exact hR.so
  have fW := Fr.alloc w (.cells #[.int .i64 s.g, .slice s.lo s.ll s.lc, .slice s.co s.cl s.cc, .slice s.no s.nl s.nc, .slice s.oo s.ol s.oc] 29)
  have k1 := ScK.new w s
  have cL := markL_wk s.lo s.ll s.lc 1 zs _ h6 hb1 (fun z hz => (h7 z hz).2.1) (by omega) (by omega) (h1.shp fW.shp) (h5.fr fW) (fun z hz => ⟨(h7 z hz).1.1.shp fW.shp, (h7 z hz).1.2⟩)
  have HL : Hid (∀ u u', Mkd (fun x => blk s.lo = some x ∨ ∃ z ∈ zs, blk z.ro = some x) u u' → Mkd (fun b => lo0 ≤ b ∧ b < hi0) u u') := fun u u' q => q.mono (fun x p => by
    rcases p with p | ⟨z, hz, p⟩
    · exact hR.bl x p
    · exact (h7 z hz).2.2 x p)
  have HC : Hid (∀ u u', Mkd (fun x => blk s.co = some x) u u' → Mkd (fun b => lo0 ≤ b ∧ b < hi0) u u') := fun u u' q => q.mono (fun x p => hR.bc x p)
  have HN : Hid (∀ u u', Mkd (fun x => blk s.no = some x) u u' → Mkd (fun b => lo0 ≤ b ∧ b < hi0) u u') := fun u u' q => q.mono (fun x p => hR.bn x p)
  have HO : Hid (∀ u u', Mkd (fun x => blk s.oo = some x) u u' → Mkd (fun b => lo0 ≤ b ∧ b < hi0) u u') := fun u u' q => q.mono (fun x p => hR.bo x p)
  have cC := fun u q (q0 : 0 ≤ q) (q1 : q ≤ 1125899906842624) (k : Shp w u) => markC_wk s.co s.cl s.cc q u hb2 q0 q1 (h2.shp k)
  have cN := fun u q (q0 : 0 ≤ q) (q1 : q ≤ 1125899906842624) (k : Shp w u) => markN_wk s.no s.nl s.nc q u hb3 q0 q1 (h3.shp k)
  have cO := fun u q (q0 : 0 ≤ q) (q1 : q ≤ 1125899906842624) (k : Shp w u) => markI_wk s.oo s.ol s.oc q u hb4 q0 q1 (h4.shp k)
  have HSH : Hid (∀ u, Shp (w.alloc (.cells #[.int .i64 s.g, .slice s.lo s.ll s.lc, .slice s.co s.cl s.cc, .slice s.no s.nl s.nc, .slice s.oo s.ol s.oc] 29)) u → Shp w u) := fun u q => fW.shp.trans q
  have KB : Hid (∀ u, FrS (fun b => lo0 ≤ b ∧ b < hi0) (w.alloc (.cells #[.int .i64 s.g, .slice s.lo s.ll s.lc, .slice s.co s.cl s.cc, .slice s.no s.nl s.nc, .slice s.oo s.ol s.oc] 29)) u → ScB u w.heap.size s) := fun u q => ScK.at ((q.block w.heap.size k1.lt (fun p => by omega)).trans k1)
  obtain ⟨s0, s1, s2, s3, s4⟩ := k1.at
  clear h1 h2 h3 h4 h5 h6 h7 r1 n1 L1 hR k1
  obtain ⟨sg, lo, ll, lc, co, cl, cc, no, nl, nc, oo, ol, oc⟩ := s
  simp only at s0 s1 s2 s3 s4 cL HL HC HN HO cC cN cO fW HSH KB hb1 hb2 hb3 hb4 ⊢
  go_enter Tryz.func36, Tryz.ntmps36
  go_wp2_with fail
  refine cL.mono ?_
  rintro x u1 ⟨r1, rfl, a1, e1, M1⟩
  have M1 := HL.out _ _ M1
  clear s0 s1 s2 s3 s4 cL
  obtain ⟨s0, s1, s2, s3, s4⟩ := KB.out u1 M1.1
  simp only at s0 s1 s2 s3 s4
  have q1 := cC u1 r1 a1 (by omega) (HSH.out u1 M1.2)
  go_wp2_with fail
  refine q1.mono ?_
  rintro x u2 ⟨rfl, M2⟩
  have M2 := M1.trans (HC.out _ _ M2)
  clear s0 s1 s2 s3 s4 q1
  obtain ⟨s0, s1, s2, s3, s4⟩ := KB.out u2 M2.1
  simp only at s0 s1 s2 s3 s4
  have q1 := cN u2 (r1 + 5 * (cl : Int)) (by omega) (by omega) (HSH.out u2 M2.2)
  go_wp2_with fail
  refine q1.mono ?_
  rintro x u3 ⟨rfl, M3⟩
  have M3 := M2.trans (HN.out _ _ M3)
  clear s0 s1 s2 s3 s4 q1
  obtain ⟨s0, s1, s2, s3, s4⟩ := KB.out u3 M3.1
  simp only at s0 s1 s2 s3 s4
  have q1 := cO u3 (r1 + 5 * (cl : Int) + 2 * (nl : Int)) (by omega) (by omega) (HSH.out u3 M3.2)
  go_wp2_with fail
  refine q1.mono ?_
  rintro x u4 ⟨rfl, M4⟩
  have M4 := M3.trans (HO.out _ _ M4)
  go_wp2_with fail
  go_ret
  exact ⟨_, rfl, by omega, fW.toS.trans M4.1⟩
end Go.Proofs.YtplnijpolkflcaaGreatDoor
namespace Go.Proofs.YtplnijpolkflcaaGreatDoor
open Go.RowKit

set_option maxHeartbeats 1000000 in
theorem specAfter_any (ao : Option Addr) (n c : Nat) (es : List Ev) (w : World) (hn : es.length = n) (h : ReadsE w ao es) :
    Calls Tryz.prog 69 #[.slice ao n c] w fun x w' => ∃ (s : Sv) (B : Nat → Prop), x = .returned (.tuple #[.agg #[.int .i64 s.g, .slice s.lo s.ll s.lc, .slice s.co s.cl s.cc, .slice s.no s.nl s.nc, .slice s.oo s.ol s.oc], .bool (aftB es)]) ∧ ScR B w' s (aftS es) ∧ Fr w w' ∧ ∀ b, B b → w.heap.size ≤ b := by
  have f0 := Fr.alloc w (.cells #[.int .i64 0, .slice none 0 0, .slice none 0 0, .slice none 0 0, .slice none 0 0] 29)
  have k0 := ScK.new w ⟨0, none, 0, 0, none, 0, 0, none, 0, 0, none, 0, 0⟩
  simp only at k0
  subst hn
  by_cases hb : es.length ≤ 300
  · have cP := l5Scene_any ao es.length c es _ rfl (h.fr f0)
    have e1 : aftS es = (legS scn0 es).1 := if_neg (by omega)
    have e3 : aftB es = decide ((legS scn0 es).2.2 = 0) := if_neg (by omega)
    have hlc := leg_code es scn0
    have e2 : (es.length : Int) ≤ 300 := by omega
    rw [e1, e3]
    clear e1 e3 h
    obtain ⟨L, hL⟩ : ∃ L : Nat, L = (legS scn0 es).2.1 := ⟨_, rfl⟩
    obtain ⟨q, hq⟩ : ∃ z : Int, z = (legS scn0 es).2.2 := ⟨_, rfl⟩
    obtain ⟨M, hM⟩ : ∃ z, z = (legS scn0 es).1 := ⟨_, rfl⟩
    simp only [← hL, ← hq, ← hM] at cP hlc
    rw [← hq, ← hM]
    clear hL hq hM hb
    have hbb : ((L : Int) == (es.length : Int)) = decide (q = 0) := by
      by_cases q0 : q = 0
      · have := hlc.1 q0
        simp [q0, this]
      · have : ¬ ((L : Int) = (es.length : Int)) := fun e => q0 (hlc.2 (by omega))
        simp [q0, this]
    clear hlc
    go_enter Tryz.func69, Tryz.ntmps69
    go_wp2_with fail
    refine (cP).mono ?_
    rintro e u1 ⟨⟨sg, lo, ll, lc, co, cl, cc, no, nl, nc, oo, ol, oc⟩, B, rfl, S1, hB, f1⟩
    have fA := Fr.alloc u1 (.cells #[.int .i64 sg, .slice lo ll lc, .slice co cl cc, .slice no nl nc, .slice oo ol oc] 29)
    have kr := k0.fr (f1.trans fA)
    have F1 := f0.trans (f1.trans fA)
    have S2 := S1.fr fA
    have hsz := f0.size
    have hkl := k0.lt
    obtain ⟨j0, j1, j2, j3, j4⟩ := kr.at
    simp only at j0 j1 j2 j3 j4
    have jf := fun i => kr.free i
    have HS2 : Hid _ := S2
    have HB : Hid (∀ b, B b → w.heap.size < b) := fun b q => by have := (hB b q).1; omega
    clear S1 S2 hB cP k0 kr fA f1 f0
    go_wp2_with fail
    have k5 := put5 (u1.alloc (.cells #[.int .i64 sg, .slice lo ll lc, .slice co cl cc, .slice no nl nc, .slice oo ol oc] 29)) w.heap.size (.int .i64 sg) (.slice lo ll lc) (.slice co cl cc) (.slice no nl nc) (.slice oo ol oc)
    refine bodyPost_ret (v := .tuple #[.agg #[.int .i64 sg, .slice lo ll lc, .slice co cl cc, .slice no nl nc, .slice oo ol oc], .bool (decide (q = 0))]) (by simp [results, Tryz.results69, go_sem, j0, j1, j2, j3, j4]) rfl ⟨⟨sg, lo, ll, lc, co, cl, cc, no, nl, nc, oo, ol, oc⟩, B, rfl, ?_, ?_, fun b q => Nat.le_of_lt (HB.out b q)⟩
    · exact HS2.out.keep k5 (fun x hx => by cases hx; exact fun q => by have := HB.out _ q; omega)
    · exact F1.then k5 (fun j hj => by simp only [Option.some.injEq] at hj; omega)
  · have e1 : aftS es = ⟨0, [], [], [], []⟩ := if_pos (by omega)
    have e3 : aftB es = false := if_pos (by omega)
    have e2 : 300 < (es.length : Int) := by omega
    rw [e1, e3]
    clear e1 e3 h hb
    go_enter Tryz.func69, Tryz.ntmps69
    go_wp2_with fail
    refine bodyPost_ret (v := .tuple #[.agg #[.int .i64 0, .slice none 0 0, .slice none 0 0, .slice none 0 0, .slice none 0 0], .bool false]) (by simp [results, Tryz.results69, go_sem]) rfl ⟨⟨0, none, 0, 0, none, 0, 0, none, 0, 0, none, 0, 0⟩, (fun _ => False), rfl, scR_zero _ _, f0, fun b q => q.elim⟩
end Go.Proofs.YtplnijpolkflcaaGreatDoor
namespace Go.Proofs.YtplnijpolkflcaaGreatDoor
open Go.RowKit


theorem boardW_any {B : Nat → Prop} (s : Sv) (m : Scn) (w : World) (h : ScR B w s m) (hB : ∀ x, B x → x < w.heap.size) (hm : scB m = true) :
    Calls Tryz.prog 50 #[.agg #[.int .i64 s.g, .slice s.lo s.ll s.lc, .slice s.co s.cl s.cc, .slice s.no s.nl s.nc, .slice s.oo s.ol s.oc]] w fun e w' => ∃ b b1 b2 b3 b4, e = .returned (.pointer (some ⟨b, 0, none⟩)) ∧ w.heap.size ≤ b1 ∧ BoardW (w.heap.size, b + 1) w' b b1 b2 b3 b4 1048576 m ∧ Fr w w' := by
  obtain ⟨lvs, r1, e1, l1⟩ := h.lks
  refine (boardOf_any s m lvs w h r1 e1 l1).mono ?_
  rintro e w' ⟨b, b1, b2, b3, b4, rfl, ⟨q0, q1, q2, q3, q4⟩, Bd, f⟩
  have M := boardM_of hm (l1.fr f) h.sl h.sc h.sn h.so Bd
  have hlt := (Array.getElem?_eq_some_iff.1 Bd.row).1
  obtain ⟨fl, p1, p2⟩ := M.m1
  exact ⟨b, b1, b2, b3, b4, rfl, q0, ⟨⟨q0, by simp only; omega, by simp only; omega⟩, Bd.row, ⟨q1, q2, q3, q4⟩, ⟨fl, p1, fun o => (p2 o).mono (fun x q => .inl (hB x q))⟩, M.m2, M.m3, M.m4⟩, f⟩

set_option maxRecDepth 20000 in
set_option maxHeartbeats 4000000 in
theorem implDone_any {B : Nat → Prop} (s : Sv) (m : Scn) (e : Ev) (w : World) (h : ScR B w s m) (hB : ∀ x, B x → x < w.heap.size) (hs : Shapes w) :
    Calls Tryz.prog 14 #[.agg #[.int .i64 s.g, .slice s.lo s.ll s.lc, .slice s.co s.cl s.cc, .slice s.no s.nl s.nc, .slice s.oo s.ol s.oc], .agg #[.int .i64 e.k, .int .i64 e.g, .int .i64 e.o, .int .i64 e.w, .int .i64 e.l, .int .i64 e.s, .int .i64 e.f, .int .i64 e.t]] w fun x w' => ∃ s' : Sv, x = .returned (.tuple #[.agg #[.int .i64 s'.g, .slice s'.lo s'.ll s'.lc, .slice s'.co s'.cl s'.cc, .slice s'.no s'.nl s'.nc, .slice s'.oo s'.ol s'.oc], .int .i64 (codeIn m e)]) ∧ ScR (fun x => w.heap.size ≤ x ∧ x < w'.heap.size) w' s' (doneS m e) ∧ Fr w w' ∧ Mky w.heap.size w'.heap.size w' s' (doneS m e) := by
  obtain ⟨k1, k2, fW, hz⟩ := box2 w s e
  have fR := Fr.alloc ((w.alloc (.cells #[.int .i64 s.g, .slice s.lo s.ll s.lc, .slice s.co s.cl s.cc, .slice s.no s.nl s.nc, .slice s.oo s.ol s.oc] 29)).alloc (.cells #[.int .i64 e.k, .int .i64 e.g, .int .i64 e.o, .int .i64 e.w, .int .i64 e.l, .int .i64 e.s, .int .i64 e.f, .int .i64 e.t] 31)) (.cells #[.int .i64 0, .slice none 0 0, .slice none 0 0, .slice none 0 0, .slice none 0 0] 29)
  have k3 := ScK.new ((w.alloc (.cells #[.int .i64 s.g, .slice s.lo s.ll s.lc, .slice s.co s.cl s.cc, .slice s.no s.nl s.nc, .slice s.oo s.ol s.oc] 29)).alloc (.cells #[.int .i64 e.k, .int .i64 e.g, .int .i64 e.o, .int .i64 e.w, .int .i64 e.l, .int .i64 e.s, .int .i64 e.f, .int .i64 e.t] 31)) ⟨0, none, 0, 0, none, 0, 0, none, 0, 0, none, 0, 0⟩
  rw [hz] at k3
  have k1 := k1.fr fR
  have k2 := k2.keep fR (by simp)
  have fW := fW.trans fR
  have cS := fun u (f : Fr w u) => implScene_any s m u (h.fr f)
  have cB := fun (q : scB m = true) u (f : Fr w u) => boardW_any s m u (h.fr f) (fun x hx => by have := hB x hx; have := f.size; omega) q
  have cT := fun (q : scB m = true) lo b b1 b2 b3 b4 u (f : Fr w u) (Bd : BoardW lo u b b1 b2 b3 b4 1048576 m) => try_any e u Bd q (hs.fr f) (by omega)
  have HZ : Hid (scB m = false → codeIn m e = 1 ∧ doneS m e = ⟨0, [], [], [], []⟩) := fun q => ⟨by simp [codeIn, q], by simp [doneS, q]⟩
  have HY : Hid (scB m = true → doneS m e = stepS m e ∧ scB (stepS m e) = true) := fun q => ⟨if_pos q, step_ok q e⟩
  have hs0 := hs
  clear h hB hs fR hz
  obtain ⟨C, hC⟩ : ∃ C, C = codeIn m e := ⟨_, rfl⟩
  obtain ⟨D, hD⟩ : ∃ C, C = doneS m e := ⟨_, rfl⟩
  obtain ⟨S, hS⟩ : ∃ C, C = stepS m e := ⟨_, rfl⟩
  obtain ⟨SO, hSO⟩ : ∃ S, S = scB m := ⟨_, rfl⟩
  simp only [← hC, ← hS] at cT
  rw [← hC, ← hD] at HZ ⊢
  rw [← hD, ← hS] at HY
  simp only [← hSO] at cS cB cT HZ HY
  clear hC hD hS hSO
  obtain ⟨k, gr, o, wi, l, sz, f, t⟩ := e
  obtain ⟨sg, lo, ll, lc, co, cl, cc, no, nl, nc, oo, ol, oc⟩ := s
  simp only at k1 k2 k3 fW cS cB cT ⊢
  go_enter Tryz.func14, Tryz.ntmps14
  go_wp2_with fail
  obtain ⟨W, hW⟩ : ∃ W, W = ((w.alloc (.cells #[.int .i64 sg, .slice lo ll lc, .slice co cl cc, .slice no nl nc, .slice oo ol oc] 29)).alloc (.cells #[.int .i64 k, .int .i64 gr, .int .i64 o, .int .i64 wi, .int .i64 l, .int .i64 sz, .int .i64 f, .int .i64 t] 31)).alloc (.cells #[.int .i64 0, .slice none 0 0, .slice none 0 0, .slice none 0 0, .slice none 0 0] 29) := ⟨_, rfl⟩
  rw [← hW] at k1 k2 k3 fW ⊢
  clear hW
  obtain ⟨A, hA⟩ : ∃ A, A = w.heap.size := ⟨_, rfl⟩
  rw [← hA] at k1 k2 k3 ⊢
  have HA : Hid (A = w.heap.size) := hA
  clear hA
  have HQ : Hid (∀ u, Fr W u → ScB u A ⟨sg, lo, ll, lc, co, cl, cc, no, nl, nc, oo, ol, oc⟩ ∧ EvAt u (A + 1) ⟨k, gr, o, wi, l, sz, f, t⟩ ∧ ScK u (A + 2) ⟨0, none, 0, 0, none, 0, 0, none, 0, 0, none, 0, 0⟩) := fun u f => ⟨(k1.fr f).at, (k2.keep f (by simp)).at, k3.fr f⟩
  clear k1 k2 k3
  refine (cS W fW).mono ?_
  rintro x u1 ⟨rfl, f1⟩
  clear cS
  obtain ⟨⟨s0, s1, s2, s3, s4⟩, -, kr⟩ := HQ.out u1 f1
  simp only at s0 s1 s2 s3 s4
  cases SO
  · obtain ⟨rfl, rfl⟩ := HZ.out rfl
    clear cB cT
    obtain ⟨j0, j1, j2, j3, j4⟩ := kr.at
    simp only at j0 j1 j2 j3 j4
    have jf := fun i => kr.free i
    go_wp2_with fail
    have k5 := put5 u1 (A + 2) (.int .i64 0) (.slice none 0 0) (.slice none 0 0) (.slice none 0 0) (.slice none 0 0)
    refine bodyPost_ret (v := .tuple #[.agg #[.int .i64 0, .slice none 0 0, .slice none 0 0, .slice none 0 0, .slice none 0 0], .int .i64 1]) (by simp [results, Tryz.results14, go_sem, j0, j1, j2, j3, j4]) rfl ⟨⟨0, none, 0, 0, none, 0, 0, none, 0, 0, none, 0, 0⟩, rfl, scR_zero _ _, (fW.trans f1).then k5 (fun j hj => by simp only [Option.some.injEq] at hj; have := HA.out; omega), .inr rfl⟩
  · obtain ⟨rfl, hok⟩ := HY.out rfl
    have cB2 := cB (by trivial)
    have cT2 := cT (by trivial)
    clear cB cT
    have HOK : Hid (scB D = true) := hok
    clear HZ HY hok kr
    go_wp2_with fail
    refine (cB2 u1 (fW.trans f1)).mono ?_
    rintro x u2 ⟨b, b1, b2, b3, b4, rfl, hb1, B2, f2⟩
    have G2 := f1.trans f2
    have hbl := B2.lt
    clear cB2 s0 s1 s2 s3 s4
    obtain ⟨-, ⟨c0, c1, c2, c3, c4, c5, c6, c7⟩, -⟩ := HQ.out u2 G2
    simp only at c0 c1 c2 c3 c4 c5 c6 c7
    go_wp2_with fail
    refine (cT2 _ b b1 b2 b3 b4 u2 (fW.trans G2) B2).mono ?_
    rintro x u3 ⟨rfl, B3, y, oy, g3⟩
    have hu1 := f1.size
    have hw1 := fW.size
    have hAl : A + 2 < W.heap.size := (HQ.out W (Fr.refl W)).2.2.lt
    have G3 : Fr W u3 := G2.then g3 (fun j hj => by simp only [Option.some.injEq] at hj; unfold On at oy; omega)
    clear cT2 c0 c1 c2 c3 c4 c5 c6 c7
    go_wp2_with fail
    refine (scene_any u3 B3 HOK.out (by omega)).mono ?_
    rintro x u4 ⟨⟨sg', lo1, ll1, lc1, co1, cl1, cc1, no1, nl1, nc1, oo1, ol1, oc1⟩, rfl, S4, f4, gl, gc, gn, go, ys, O4⟩
    have G4 := G3.trans f4
    obtain ⟨-, -, kr⟩ := HQ.out u4 G4
    obtain ⟨j0, j1, j2, j3, j4⟩ := kr.at
    simp only at j0 j1 j2 j3 j4
    have jf := fun i => kr.free i
    have hu3 := G3.size
    have HS4 : Hid _ := S4
    have HO4 : Hid _ := O4
    clear S4 O4
    go_wp2_with fail
    have k5 := put5 u4 (A + 2) (.int .i64 sg') (.slice lo1 ll1 lc1) (.slice co1 cl1 cc1) (.slice no1 nl1 nc1) (.slice oo1 ol1 oc1)
    have z5 := k5.size
    refine bodyPost_ret (v := .tuple #[.agg #[.int .i64 sg', .slice lo1 ll1 lc1, .slice co1 cl1 cc1, .slice no1 nl1 nc1, .slice oo1 ol1 oc1], .int .i64 C]) (by simp [results, Tryz.results14, go_sem, j0, j1, j2, j3, j4]) rfl ⟨⟨sg', lo1, ll1, lc1, co1, cl1, cc1, no1, nl1, nc1, oo1, ol1, oc1⟩, rfl, ?_, (fW.trans G4).then k5 (fun j hj => by simp only [Option.some.injEq] at hj; have := HA.out; omega), .inl ⟨gl, gc, gn, go, ys, (HO4.out.keep k5 (.inl (by omega))).lower (by have := HA.out; omega), fun x hx => Nat.lt_of_lt_of_le (HO4.out.lo x hx).2 z5⟩⟩
    exact (HS4.out.keep k5 (fun x hx => by cases hx; exact fun (q : u3.heap.size ≤ A + 2 ∧ A + 2 < u4.heap.size) => by omega)).mono (fun x (q : u3.heap.size ≤ x ∧ x < u4.heap.size) => ⟨by have h1 := HA.out; have h2 := q.1; omega, Nat.lt_of_lt_of_le q.2 z5⟩)
end Go.Proofs.YtplnijpolkflcaaGreatDoor
namespace Go.Proofs.YtplnijpolkflcaaGreatDoor
open Go.RowKit

theorem ScO.keepX {base : Nat} {w w' : World} {s : Sv} {m : Scn} {gl gc gn go : Nat} {lvs : List Lv} {row : Nat} (h : ScO base w s m gl gc gn go lvs) (k : w.grownBy w' (some row)) (hx : ∀ x, BlkL gl lvs x ∨ x = gc ∨ x = gn ∨ x = go → row ≠ x) : ScO base w' s m gl gc gn go lvs := by
  have n1 := hx gl (.inl (.inl rfl))
  have n2 := hx gc (.inr (.inl rfl))
  have n3 := hx gn (.inr (.inr (.inl rfl)))
  have n4 := hx go (.inr (.inr (.inr rfl)))
  exact { h with rl := h.rl.keep k (.inr (by simpa [blk] using fun e => n1 e.symm)), ol := h.ol.keep k (fun x e q => by cases e; exact hx _ (.inl q) rfl), rc := h.rc.keep k (by simpa using fun e => n2 e.symm), rn := h.rn.keep k (by simpa using fun e => n3 e.symm), oo := h.oo.keep k (.inr (by simpa [Value.ownBlock] using fun e => n4 e.symm)), lo := fun x hx => ⟨(h.lo x hx).1, Nat.lt_of_lt_of_le (h.lo x hx).2 k.size⟩ }
theorem Mky.keepX {base top : Nat} {w w' : World} {s : Sv} {m : Scn} {row : Nat} (h : Mky base top w s m) (k : w.grownBy w' (some row)) (hr : row < base ∨ top ≤ row) : Mky base top w' s m := by
  rcases h with ⟨gl, gc, gn, go, ys, h, q⟩ | h
  · refine .inl ⟨gl, gc, gn, go, ys, h.keepX k (fun x p => ?_), q⟩
    have h1 := (h.lo x p).1
    have h2 := q x p
    omega
  · exact .inr h
end Go.Proofs.YtplnijpolkflcaaGreatDoor
