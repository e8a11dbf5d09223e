/-
  A watch is made: watchFrom.
-/
import Derived.Test.YtkfcchapfklpgaaPackAK
import Derived.Test.YtkfcchapfklpgaaPackAE
import Derived.Test.YtkfcchapfklpgaaPackAJ
import Derived.Test.YtkfcchapfklpgaaPackAI
import Derived.Carry
namespace Go.Proofs.Ytkfcchapfklpgaa
open Go.RowKit

/-- The region that puts a burst: where each value goes, who uses it, what it is. -/
def dsW (i : Nat) : Nat := 26 + i
def coW (i : Nat) : Nat := [1, 2, 3, 11, 5, 11, 7, 10, 9, 10, 11].getD i 0
def RW (wb mb Z O base : Nat) (x : Ow) (c : Cf) : Nat → Value → World → Prop
  | 0, v, _ => v = .pointer (some ⟨wb, 0, none⟩)
  | 1, v, _ => v = .pointer (some ⟨wb, 0, none⟩)
  | 2, v, _ => v = .pointer (some ⟨wb, 22, none⟩)
  | 3, v, _ => v = .map (some mb)
  | 4, v, _ => v = .agg #[.int .i64 x.g, .int .i64 x.f, .int .i64 x.b.l, .int .i64 x.b.s, .int .i64 x.b.g]
  | 5, v, _ => v = .agg #[.int .i64 x.g, .int .i64 x.f]
  | 6, v, _ => v = .pointer (some ⟨Z, 14, none⟩)
  | 7, v, _ => v = .agg #[.int .i64 c.r, .int .i64 c.s, .int .i64 c.b, .int .i64 c.m, .int .i64 c.q, .int .i64 c.c, .int .i64 c.w]
  | 8, v, _ => v = .pointer (some ⟨O, 2, none⟩)
  | 9, v, _ => v = .agg #[.int .i64 x.b.l, .int .i64 x.b.s, .int .i64 x.b.g]
  | 10, v, u => ∃ p, v = lbV c p ∧ BuZ u p #[.int .i64 x.b.l, .int .i64 x.b.s, .int .i64 x.b.g] ∧ base ≤ p
  | _, _, _ => True
theorem RW.st {wb mb Z O base : Nat} {x : Ow} {c : Cf} (i : Nat) (v : Value) (u u' : World) (h : RW wb mb Z O base x c i v u) (k : Fr u u') : RW wb mb Z O base x c i v u' := by
  rcases i with _ | _ | _ | _ | _ | _ | _ | _ | _ | _ | _ | i
  all_goals first | exact h | skip
  obtain ⟨p, h1, h2, h3⟩ := h
  exact ⟨p, h1, h2.fr k, h3⟩

set_option maxRecDepth 20000 in
set_option maxHeartbeats 8000000 in
theorem watchFrom_any (c : Cf) (ao : Option Addr) (L cap : Nat) (so : Option Addr) (n2 cap2 : Nat) (os : List Ow) (p u : Int) (w : World) (hn : os.length = n2) (h3 : n2 ≤ 300) (hO : ReadsG LO w so os) (hr : RisO os) (hi : InO os) :
    Calls Try.prog 43 #[.agg #[.int .i64 0, .int .i64 1, .int .i64 1, .int .i64 1, .int .i64 0, .int .i64 1, .int .i64 1, .int .i64 1000000, .int .i64 1000, .int .i64 1000, .int .i64 100000, .int .i64 100000, .int .i64 512, .int .i64 64, .int .i64 c.r, .int .i64 c.s, .int .i64 c.b, .int .i64 c.m, .int .i64 c.q, .int .i64 c.c, .int .i64 c.w], .slice ao L cap, .agg #[.slice so n2 cap2, .int .i64 p, .int .i64 u]] w fun e w' => ∃ wb mb B N, e = .returned (.pointer (some ⟨wb, 0, none⟩)) ∧ WatW w.heap.size w' wb mb c (.slice ao L cap) ⟨os, p, u⟩ B N ∧ N ≤ 1000 ∧ Fr w w' := by
  subst hn
  have HOB : Hid (∀ b off, so = some ⟨b, off, none⟩ → 0 < os.length → b < w.heap.size) := fun b off e h0 => by
    obtain ⟨b', off', e', h1, -⟩ := ow_at hO 0 h0
    rw [e] at e'
    simp only [Option.some.injEq, Addr.mk.injEq, and_true] at e'
    obtain ⟨rfl, rfl⟩ := e'
    by_cases q : b < w.heap.size
    · exact q
    · simp [World.cell?, Array.getElem?_eq_none (show w.heap.size ≤ b by omega)] at h1
  have kL : LcZ (w.alloc (.cells #[.int .i64 0, .int .i64 1, .int .i64 1, .int .i64 1, .int .i64 0, .int .i64 1, .int .i64 1, .int .i64 1000000, .int .i64 1000, .int .i64 1000, .int .i64 100000, .int .i64 100000, .int .i64 512, .int .i64 64, .int .i64 c.r, .int .i64 c.s, .int .i64 c.b, .int .i64 c.m, .int .i64 c.q, .int .i64 c.c, .int .i64 c.w] 71)) w.heap.size #[.int .i64 0, .int .i64 1, .int .i64 1, .int .i64 1, .int .i64 0, .int .i64 1, .int .i64 1, .int .i64 1000000, .int .i64 1000, .int .i64 1000, .int .i64 100000, .int .i64 100000, .int .i64 512, .int .i64 64, .int .i64 c.r, .int .i64 c.s, .int .i64 c.b, .int .i64 c.m, .int .i64 c.q, .int .i64 c.c, .int .i64 c.w] := heap_alloc_new _ _
  have f1 := Fr.alloc w (.cells #[.int .i64 0, .int .i64 1, .int .i64 1, .int .i64 1, .int .i64 0, .int .i64 1, .int .i64 1, .int .i64 1000000, .int .i64 1000, .int .i64 1000, .int .i64 100000, .int .i64 100000, .int .i64 512, .int .i64 64, .int .i64 c.r, .int .i64 c.s, .int .i64 c.b, .int .i64 c.m, .int .i64 c.q, .int .i64 c.c, .int .i64 c.w] 71)
  have hs1 : (w.alloc (.cells #[.int .i64 0, .int .i64 1, .int .i64 1, .int .i64 1, .int .i64 0, .int .i64 1, .int .i64 1, .int .i64 1000000, .int .i64 1000, .int .i64 1000, .int .i64 100000, .int .i64 100000, .int .i64 512, .int .i64 64, .int .i64 c.r, .int .i64 c.s, .int .i64 c.b, .int .i64 c.m, .int .i64 c.q, .int .i64 c.c, .int .i64 c.w] 71)).heap.size = w.heap.size + 1 := by simp
  have kS : KyZ ((w.alloc (.cells #[.int .i64 0, .int .i64 1, .int .i64 1, .int .i64 1, .int .i64 0, .int .i64 1, .int .i64 1, .int .i64 1000000, .int .i64 1000, .int .i64 1000, .int .i64 100000, .int .i64 100000, .int .i64 512, .int .i64 64, .int .i64 c.r, .int .i64 c.s, .int .i64 c.b, .int .i64 c.m, .int .i64 c.q, .int .i64 c.c, .int .i64 c.w] 71)).alloc (.cells #[.slice so os.length cap2, .int .i64 p, .int .i64 u] 33)) (w.heap.size + 1) 33 #[.slice so os.length cap2, .int .i64 p, .int .i64 u] := by
    have := heap_alloc_new (w.alloc (.cells #[.int .i64 0, .int .i64 1, .int .i64 1, .int .i64 1, .int .i64 0, .int .i64 1, .int .i64 1, .int .i64 1000000, .int .i64 1000, .int .i64 1000, .int .i64 100000, .int .i64 100000, .int .i64 512, .int .i64 64, .int .i64 c.r, .int .i64 c.s, .int .i64 c.b, .int .i64 c.m, .int .i64 c.q, .int .i64 c.c, .int .i64 c.w] 71)) (.cells #[.slice so os.length cap2, .int .i64 p, .int .i64 u] 33)
    rwa [hs1] at this
  have f2 := Fr.alloc (w.alloc (.cells #[.int .i64 0, .int .i64 1, .int .i64 1, .int .i64 1, .int .i64 0, .int .i64 1, .int .i64 1, .int .i64 1000000, .int .i64 1000, .int .i64 1000, .int .i64 100000, .int .i64 100000, .int .i64 512, .int .i64 64, .int .i64 c.r, .int .i64 c.s, .int .i64 c.b, .int .i64 c.m, .int .i64 c.q, .int .i64 c.c, .int .i64 c.w] 71)) (.cells #[.slice so os.length cap2, .int .i64 p, .int .i64 u] 33)
  have hs2 : ((w.alloc (.cells #[.int .i64 0, .int .i64 1, .int .i64 1, .int .i64 1, .int .i64 0, .int .i64 1, .int .i64 1, .int .i64 1000000, .int .i64 1000, .int .i64 1000, .int .i64 100000, .int .i64 100000, .int .i64 512, .int .i64 64, .int .i64 c.r, .int .i64 c.s, .int .i64 c.b, .int .i64 c.m, .int .i64 c.q, .int .i64 c.c, .int .i64 c.w] 71)).alloc (.cells #[.slice so os.length cap2, .int .i64 p, .int .i64 u] 33)).heap.size = w.heap.size + 2 := by simp
  replace kL := kL.fr f2
  replace f1 := f1.trans f2
  clear f2 hs1
  go_enter Try.func43, Try.ntmps43
  go_upto_region 1 with fail
  obtain ⟨W, hW⟩ : ∃ W, W = (w.alloc (.cells #[.int .i64 0, .int .i64 1, .int .i64 1, .int .i64 1, .int .i64 0, .int .i64 1, .int .i64 1, .int .i64 1000000, .int .i64 1000, .int .i64 1000, .int .i64 100000, .int .i64 100000, .int .i64 512, .int .i64 64, .int .i64 c.r, .int .i64 c.s, .int .i64 c.b, .int .i64 c.m, .int .i64 c.q, .int .i64 c.c, .int .i64 c.w] 71)).alloc (.cells #[.slice so os.length cap2, .int .i64 p, .int .i64 u] 33) := ⟨_, rfl⟩
  rw [← hW] at kL kS f1 hs2 ⊢
  clear hW
  obtain ⟨z0, z1, z2⟩ := kS.c3
  have hM : WatW w.heap.size ((W.alloc (.map #[] 0)).alloc (.cells #[.int .i64 0, .int .i64 1, .int .i64 1, .int .i64 1, .int .i64 0, .int .i64 1, .int .i64 1, .int .i64 1000000, .int .i64 1000, .int .i64 1000, .int .i64 100000, .int .i64 100000, .int .i64 512, .int .i64 64, .int .i64 c.r, .int .i64 c.s, .int .i64 c.b, .int .i64 c.m, .int .i64 c.q, .int .i64 c.c, .int .i64 c.w, .slice ao L cap, .map (some W.heap.size), .int .i64 p, .int .i64 u] 90)) (W.heap.size + 1) W.heap.size c (.slice ao L cap) ⟨os.take 0, p, u⟩ (fun _ _ => 0) 0 := by
    have h1 := MapO.made W (fun g f => lbV c ((fun _ _ => 0 : Int → Int → Nat) g f))
    have h2 := h1.fr (Fr.alloc (W.alloc (.map #[] 0)) (.cells #[.int .i64 0, .int .i64 1, .int .i64 1, .int .i64 1, .int .i64 0, .int .i64 1, .int .i64 1, .int .i64 1000000, .int .i64 1000, .int .i64 1000, .int .i64 100000, .int .i64 100000, .int .i64 512, .int .i64 64, .int .i64 c.r, .int .i64 c.s, .int .i64 c.b, .int .i64 c.m, .int .i64 c.q, .int .i64 c.c, .int .i64 c.w, .slice ao L cap, .map (some W.heap.size), .int .i64 p, .int .i64 u] 90))
    refine ⟨?_, h2, fun o ho => by simp at ho, fun o ho => by simp at ho, by omega, by omega, fun o ho => by simp at ho⟩
    have := heap_alloc_new (W.alloc (.map #[] 0)) (.cells #[.int .i64 0, .int .i64 1, .int .i64 1, .int .i64 1, .int .i64 0, .int .i64 1, .int .i64 1, .int .i64 1000000, .int .i64 1000, .int .i64 1000, .int .i64 100000, .int .i64 100000, .int .i64 512, .int .i64 64, .int .i64 c.r, .int .i64 c.s, .int .i64 c.b, .int .i64 c.m, .int .i64 c.q, .int .i64 c.c, .int .i64 c.w, .slice ao L cap, .map (some W.heap.size), .int .i64 p, .int .i64 u] 90)
    rwa [World.size_alloc] at this
  have f2 := (Fr.alloc W (.map #[] 0)).trans (Fr.alloc (W.alloc (.map #[] 0)) (.cells #[.int .i64 0, .int .i64 1, .int .i64 1, .int .i64 1, .int .i64 0, .int .i64 1, .int .i64 1, .int .i64 1000000, .int .i64 1000, .int .i64 1000, .int .i64 100000, .int .i64 100000, .int .i64 512, .int .i64 64, .int .i64 c.r, .int .i64 c.s, .int .i64 c.b, .int .i64 c.m, .int .i64 c.q, .int .i64 c.c, .int .i64 c.w, .slice ao L cap, .map (some W.heap.size), .int .i64 p, .int .i64 u] 90))
  have hsV : ((W.alloc (.map #[] 0)).alloc (.cells #[.int .i64 0, .int .i64 1, .int .i64 1, .int .i64 1, .int .i64 0, .int .i64 1, .int .i64 1, .int .i64 1000000, .int .i64 1000, .int .i64 1000, .int .i64 100000, .int .i64 100000, .int .i64 512, .int .i64 64, .int .i64 c.r, .int .i64 c.s, .int .i64 c.b, .int .i64 c.m, .int .i64 c.q, .int .i64 c.c, .int .i64 c.w, .slice ao L cap, .map (some W.heap.size), .int .i64 p, .int .i64 u] 90)).heap.size = w.heap.size + 4 := by simp [hs2]
  have hmk : ∀ u : World, Sem.run Try.prog (Instr.makeMap 88 none) u = .ok (.map (some u.heap.size)) (u.alloc (.map #[] 0)) := fun u => run_makeMap _ u
  go_wp2_with (refine load_lc (c := c) rfl (.tmp 3) rfl rfl kL ?_)
  rw [hs2] at hM f2 hsV
  obtain ⟨V, hV⟩ : ∃ V, V = (W.alloc (.map #[] 0)).alloc (.cells #[.int .i64 0, .int .i64 1, .int .i64 1, .int .i64 1, .int .i64 0, .int .i64 1, .int .i64 1, .int .i64 1000000, .int .i64 1000, .int .i64 1000, .int .i64 100000, .int .i64 100000, .int .i64 512, .int .i64 64, .int .i64 c.r, .int .i64 c.s, .int .i64 c.b, .int .i64 c.m, .int .i64 c.q, .int .i64 c.c, .int .i64 c.w, .slice ao L cap, .map (some (w.heap.size + 2)), .int .i64 p, .int .i64 u] 90) := ⟨_, rfl⟩
  rw [← hV] at hM f2 hsV ⊢
  clear hV
  replace kL := kL.fr f2
  replace kS := kS.fr f2
  replace hO := (hO.fr f1).fr f2
  have HV : Hid (V.heap.size = w.heap.size + 4 ∧ Fr w V) := ⟨hsV, f1.trans f2⟩
  have HR : Hid (RisO os ∧ InO os ∧ os.length ≤ 300) := ⟨hr, hi, h3⟩
  clear z0 z1 z2 f1 f2 hs2 hsV hr hi h3 W
  have hl := hO.len
  have HQ : Hid (∀ u, Fr V u → LcZ u w.heap.size #[.int .i64 0, .int .i64 1, .int .i64 1, .int .i64 1, .int .i64 0, .int .i64 1, .int .i64 1, .int .i64 1000000, .int .i64 1000, .int .i64 1000, .int .i64 100000, .int .i64 100000, .int .i64 512, .int .i64 64, .int .i64 c.r, .int .i64 c.s, .int .i64 c.b, .int .i64 c.m, .int .i64 c.q, .int .i64 c.c, .int .i64 c.w] ∧ ReadsG LO u so os) := fun u k => ⟨kL.fr k, hO.fr k⟩
  obtain ⟨z0, -, -⟩ := kS.c3
  have HM : Hid (WatW w.heap.size V (w.heap.size + 2 + 1) (w.heap.size + 2) c (.slice ao L cap) ⟨os.take 0, p, u⟩ (fun _ _ => 0) 0) := hM
  obtain ⟨wb, hwb⟩ : ∃ wb, wb = w.heap.size + 2 + 1 := ⟨_, rfl⟩
  obtain ⟨mb, hmb⟩ : ∃ mb, mb = w.heap.size + 2 := ⟨_, rfl⟩
  have HWB : Hid (wb = w.heap.size + 2 + 1 ∧ mb = w.heap.size + 2) := ⟨hwb, hmb⟩
  clear z0 kL kS hO hM hwb hmb
  go_loopw [22] (fun i wr => ∃ (k : Nat) (B : Int → Int → Nat), k ≤ os.length ∧ i = .int .i64 k ∧ Hid (WatW w.heap.size wr (w.heap.size + 2 + 1) (w.heap.size + 2) c (.slice ao L cap) ⟨os.take k, p, u⟩ B k) ∧ Fr w wr ∧ Hid (LcZ wr w.heap.size #[.int .i64 0, .int .i64 1, .int .i64 1, .int .i64 1, .int .i64 0, .int .i64 1, .int .i64 1, .int .i64 1000000, .int .i64 1000, .int .i64 1000, .int .i64 100000, .int .i64 100000, .int .i64 512, .int .i64 64, .int .i64 c.r, .int .i64 c.s, .int .i64 c.b, .int .i64 c.m, .int .i64 c.q, .int .i64 c.c, .int .i64 c.w] ∧ ReadsG LO wr so os) ∧ Hid (w.heap.size + 4 ≤ wr.heap.size)) (fun i _ => os.length - (intOf i).toNat)
  case atStart => exact ⟨0, _, Nat.zero_le _, rfl, HM, HV.out.2, HQ.out _ (Fr.refl _), by have := HV.out.1; show _ ≤ _; omega⟩
  case round =>
    obtain ⟨k, B, hk, rfl, HW, hF, HL, HZ⟩ := hrel
    by_cases hlt : k < os.length
    · obtain ⟨kL, hO⟩ := HL.out
      obtain ⟨eb, off, rfl, d0, d1, d2, d3, d4⟩ := ow_at hO k hlt
      obtain ⟨x, hx⟩ : ∃ x, x = os[k] := ⟨_, rfl⟩
      have HX : Hid (x = os[k]) := hx
      rw [← hx] at d0 d1 d2 d3 d4
      clear hx hO
      obtain ⟨xg, xf, xl, xs, xp⟩ := x
      simp only at d0 d1 d2 d3 d4
      have zO : OwZ (wr.alloc (.cells #[.int .i64 xg, .int .i64 xf, .int .i64 xl, .int .i64 xs, .int .i64 xp] 53)) wr.heap.size #[.int .i64 xg, .int .i64 xf, .int .i64 xl, .int .i64 xs, .int .i64 xp] := heap_alloc_new wr _
      have fz := Fr.alloc wr (.cells #[.int .i64 xg, .int .i64 xf, .int .i64 xl, .int .i64 xs, .int .i64 xp] 53)
      have HE : Hid (os.take (k + 1) = putO (os.take k) ⟨xg, xf, ⟨xl, xs, xp⟩⟩ ∧ getO (os.take k) xg xf = none ∧ RisO (os.take k) ∧ I64 xg ∧ I64 xf) := by
        obtain ⟨t1, t2, t3⟩ := ris_take HR.out.1 hlt
        have t4 := HR.out.2.1 _ (List.getElem_mem hlt)
        rw [← HX.out] at t1 t2 t4
        exact ⟨t1.symm, t2, t3, t4.1, t4.2⟩
      go_wp2_with fail
      obtain ⟨LV, hLV⟩ : ∃ LV : Value, LV = .agg #[.int .i64 0, .int .i64 1, .int .i64 1, .int .i64 1, .int .i64 0, .int .i64 1, .int .i64 1, .int .i64 1000000, .int .i64 1000, .int .i64 1000, .int .i64 100000, .int .i64 100000, .int .i64 512, .int .i64 64, .int .i64 c.r, .int .i64 c.s, .int .i64 c.b, .int .i64 c.m, .int .i64 c.q, .int .i64 c.c, .int .i64 c.w] := ⟨_, rfl⟩
      obtain ⟨SV, hSV⟩ : ∃ SV : Value, SV = .agg #[.slice (some ⟨eb, off, none⟩) os.length cap2, .int .i64 p, .int .i64 u] := ⟨_, rfl⟩
      obtain ⟨WV, hWV⟩ : ∃ WV : Value, WV = .agg #[.int .i64 0, .int .i64 1, .int .i64 1, .int .i64 1, .int .i64 0, .int .i64 1, .int .i64 1, .int .i64 1000000, .int .i64 1000, .int .i64 1000, .int .i64 100000, .int .i64 100000, .int .i64 512, .int .i64 64, .int .i64 c.r, .int .i64 c.s, .int .i64 c.b, .int .i64 c.m, .int .i64 c.q, .int .i64 c.c, .int .i64 c.w, .slice ao L cap, .map (some (w.heap.size + 2)), .int .i64 p, .int .i64 u] := ⟨_, rfl⟩
      rw [← hWV, ← hLV, ← hSV]
      rw [← HWB.out.1, ← HWB.out.2] at HW ⊢
      obtain ⟨U, hU0⟩ : ∃ U, U = wr.alloc (.cells #[.int .i64 xg, .int .i64 xf, .int .i64 xl, .int .i64 xs, .int .i64 xp] 53) := ⟨_, rfl⟩
      rw [← hU0] at zO fz ⊢
      obtain ⟨O, hO⟩ : ∃ O, O = wr.heap.size := ⟨_, rfl⟩
      rw [← hO] at zO ⊢
      have HO : Hid (O = wr.heap.size) := hO
      have HB3 : Hid (LV = .agg #[.int .i64 0, .int .i64 1, .int .i64 1, .int .i64 1, .int .i64 0, .int .i64 1, .int .i64 1, .int .i64 1000000, .int .i64 1000, .int .i64 1000, .int .i64 100000, .int .i64 100000, .int .i64 512, .int .i64 64, .int .i64 c.r, .int .i64 c.s, .int .i64 c.b, .int .i64 c.m, .int .i64 c.q, .int .i64 c.c, .int .i64 c.w] ∧ SV = .agg #[.slice (some ⟨eb, off, none⟩) os.length cap2, .int .i64 p, .int .i64 u] ∧ WV = .agg #[.int .i64 0, .int .i64 1, .int .i64 1, .int .i64 1, .int .i64 0, .int .i64 1, .int .i64 1, .int .i64 1000000, .int .i64 1000, .int .i64 1000, .int .i64 100000, .int .i64 100000, .int .i64 512, .int .i64 64, .int .i64 c.r, .int .i64 c.s, .int .i64 c.b, .int .i64 c.m, .int .i64 c.q, .int .i64 c.c, .int .i64 c.w, .slice ao L cap, .map (some (w.heap.size + 2)), .int .i64 p, .int .i64 u]) := ⟨hLV, hSV, by rw [hWV]⟩
      clear hO hU0 hLV hSV hWV d0 d1 d2 d3 d4
      have HF : Hid (∀ u, Fr U u → u.cell? ⟨wb, 22, none⟩ = some (.map (some mb)) ∧ OwZ u O #[.int .i64 xg, .int .i64 xf, .int .i64 xl, .int .i64 xs, .int .i64 xp] ∧ CfAt u w.heap.size 14 c) := fun u k => ⟨((HW.out.fr fz).fr k).box.cm, zO.fr k, ((kL.fr fz).fr k).at.2⟩
      refine wp_region_once 11 dsW coW (fun X => { tmps := #[LV, .slice ao L cap, SV, .pointer (some ⟨w.heap.size, 0, none⟩), undef, .pointer (some ⟨w.heap.size + 1, 0, none⟩), .pointer none, .pointer (some ⟨wb, 0, none⟩), undef, .pointer (some ⟨O, 0, none⟩), LV, .slice ao L cap, .map (some mb), .pointer (some ⟨w.heap.size + 1, 1, none⟩), .int .i64 p, .pointer (some ⟨w.heap.size + 1, 2, none⟩), .int .i64 u, WV, .pointer (some ⟨wb, 0, none⟩), .pointer (some ⟨w.heap.size + 1, 0, none⟩), .slice (some ⟨eb, off, none⟩) os.length cap2, .int .i64 os.length, .int .i64 k, .bool true, .pointer (some ⟨eb, off + k * 5, none⟩), .agg #[.int .i64 xg, .int .i64 xf, .int .i64 xl, .int .i64 xs, .int .i64 xp], X 26, X 27, X 28, X 29, X 30, X 31, X 32, X 33, X 34, X 35, X 36, u37, undef], defers := [] }) (RW wb mb w.heap.size O U.heap.size ⟨xg, xf, ⟨xl, xs, xp⟩⟩ c) (by kernel_rfl) (by decide) (by kernel_rfl) (by kernel_rfl) (by kernel_rfl) (by kernel_rfl) (fun i j _ _ e => by unfold dsW at e; omega) (by kernel_rfl) (fun i => #[u26, u27, u28, u29, u30, u31, u32, u33, u34, u35, u36].getD (i - 26) undef) rfl RW.st ?_ ?_
      · intro i o X v hi ho hU hE
        obtain ⟨c22, zv, k0, k1, k2, k3, k4, k5, k6⟩ := HF.out v hU
        obtain ⟨o0, o1, o2, o3, o4⟩ := zv.cs
        simp only [Nat.reduceAdd] at k0 k1 k2 k3 k4 k5 k6
        clear zv
        rcases i with _ | _ | _ | _ | _ | _ | _ | _ | _ | _ | _ | i
        · simp only [List.getElem?_toArray, List.getElem?_cons_zero, Option.some.injEq] at ho
          subst ho
          refine ⟨by simp [Region.wanted], ?_⟩
          go_simp
          exact ⟨_, (by simp [upd, dsW]), Fr.refl _, rfl⟩
        · simp only [List.getElem?_toArray, List.getElem?_cons_succ, List.getElem?_cons_zero, Option.some.injEq] at ho
          subst ho
          refine ⟨by simp [Region.wanted], ?_⟩
          have e0 : X 26 = .pointer (some ⟨wb, 0, none⟩) := hE 0 (by decide) rfl
          go_simp
          exact ⟨_, (by simp [upd, dsW, e0]), Fr.refl _, rfl⟩
        · simp only [List.getElem?_toArray, List.getElem?_cons_succ, List.getElem?_cons_zero, Option.some.injEq] at ho
          subst ho
          refine ⟨by simp [Region.wanted], ?_⟩
          have e1 : X 27 = .pointer (some ⟨wb, 0, none⟩) := hE 1 (by decide) rfl
          go_simp
          exact ⟨_, (by simp [upd, dsW, e1]), Fr.refl _, rfl⟩
        · simp only [List.getElem?_toArray, List.getElem?_cons_succ, List.getElem?_cons_zero, Option.some.injEq] at ho
          subst ho
          refine ⟨by simp [Region.wanted], ?_⟩
          have e2 : X 28 = .pointer (some ⟨wb, 22, none⟩) := hE 2 (by decide) rfl
          simp only [e2]
          go_simp
          exact ⟨_, (by simp [upd, dsW, e2]), Fr.refl _, rfl⟩
        · simp only [List.getElem?_toArray, List.getElem?_cons_succ, List.getElem?_cons_zero, Option.some.injEq] at ho
          subst ho
          refine ⟨by simp [Region.wanted], ?_⟩
          go_simp
          exact ⟨_, (by simp [upd, dsW]), Fr.refl _, rfl⟩
        · simp only [List.getElem?_toArray, List.getElem?_cons_succ, List.getElem?_cons_zero, Option.some.injEq] at ho
          subst ho
          refine ⟨by simp [Region.wanted], ?_⟩
          have e4 : X 30 = .agg #[.int .i64 xg, .int .i64 xf, .int .i64 xl, .int .i64 xs, .int .i64 xp] := hE 4 (by decide) rfl
          simp only [e4]
          go_simp
          refine (owner_any ⟨xg, xf, ⟨xl, xs, xp⟩⟩ v).mono ?_
          rintro y u' ⟨rfl, f'⟩
          exact ⟨_, (by simp [upd, dsW, e4]), f', rfl⟩
        · simp only [List.getElem?_toArray, List.getElem?_cons_succ, List.getElem?_cons_zero, Option.some.injEq] at ho
          subst ho
          refine ⟨by simp [Region.wanted], ?_⟩
          go_simp
          exact ⟨_, (by simp [upd, dsW]), Fr.refl _, rfl⟩
        · simp only [List.getElem?_toArray, List.getElem?_cons_succ, List.getElem?_cons_zero, Option.some.injEq] at ho
          subst ho
          refine ⟨by simp [Region.wanted], ?_⟩
          have e6 : X 32 = .pointer (some ⟨w.heap.size, 14, none⟩) := hE 6 (by decide) rfl
          simp only [e6]
          go_simp
          exact ⟨_, (by simp [upd, dsW, e6]), Fr.refl _, rfl⟩
        · simp only [List.getElem?_toArray, List.getElem?_cons_succ, List.getElem?_cons_zero, Option.some.injEq] at ho
          subst ho
          refine ⟨by simp [Region.wanted], ?_⟩
          go_simp
          exact ⟨_, (by simp [upd, dsW]), Fr.refl _, rfl⟩
        · simp only [List.getElem?_toArray, List.getElem?_cons_succ, List.getElem?_cons_zero, Option.some.injEq] at ho
          subst ho
          refine ⟨by simp [Region.wanted], ?_⟩
          have e8 : X 34 = .pointer (some ⟨O, 2, none⟩) := hE 8 (by decide) rfl
          simp only [e8]
          go_simp
          exact ⟨_, (by simp [upd, dsW, e8]), Fr.refl _, rfl⟩
        · simp only [List.getElem?_toArray, List.getElem?_cons_succ, List.getElem?_cons_zero, Option.some.injEq] at ho
          subst ho
          refine ⟨by simp [Region.wanted], ?_⟩
          have e7 : X 33 = .agg #[.int .i64 c.r, .int .i64 c.s, .int .i64 c.b, .int .i64 c.m, .int .i64 c.q, .int .i64 c.c, .int .i64 c.w] := hE 7 (by decide) rfl
          have e9 : X 35 = .agg #[.int .i64 xl, .int .i64 xs, .int .i64 xp] := hE 9 (by decide) rfl
          simp only [e7, e9]
          go_simp
          refine (longBurst_any c ⟨xl, xs, xp⟩ v).mono ?_
          rintro y u' ⟨q, rfl, hb, hq, f'⟩
          exact ⟨_, (by simp [upd, dsW, e7, e9]), f', q, rfl, hb, by have := hU.size; omega⟩
        · omega
      · intro o X v ho hU hE
        simp only [List.getElem?_toArray, List.getElem?_cons_succ, List.getElem?_cons_zero, Option.some.injEq] at ho
        subst ho
        refine ⟨by simp [Region.wanted], ?_⟩
        have e3 : X 29 = .map (some mb) := hE 3 (by decide) rfl
        have e5 : X 31 = kyV xg xf := hE 5 (by decide) rfl
        obtain ⟨q, e10, hb, hq⟩ : ∃ q, X 36 = lbV c q ∧ BuZ v q #[.int .i64 xl, .int .i64 xs, .int .i64 xp] ∧ U.heap.size ≤ q := hE 10 (by decide) rfl
        obtain ⟨t1, t2, t3, t4, t5⟩ := HE.out
        have hU0 := HW.out.fr fz
        obtain ⟨w4, hrun, hM4, g4⟩ := (hU0.fr hU).map.put (os' := putO (os.take k) ⟨xg, xf, ⟨xl, xs, xp⟩⟩) Try.underlying88 (by have := HR.out.2.2; unfold maxLen; omega) t4 t5 (lbV c q) (fun i j => by
          rw [putO_get t3]
          by_cases e : i = xg ∧ j = xf
          · obtain ⟨rfl, rfl⟩ := e
            rw [if_pos (samB_true.2 ⟨rfl, rfl⟩)]
            simp
          · rw [if_neg (by rw [samB_true]; simp only; omega), decide_eq_false e, Bool.false_or])
        have hrun : (Instr.mapUpdate 88 (X 29) (X 31) (X 36)).run Try.prog v = .ok () w4 := by rw [e3, e5, e10]; exact hrun
        refine wp_mapput 88 (.tmp 29) (.tmp 31) (.tmp 36) rfl hrun ?_
        simp only [Act.put]
        have hput := hU0.put t2 hU hb hq (by have := hF.size; have := fz.size; omega) hM4 g4
        rw [← t1] at hput
        have hFw : Fr w w4 := (hF.trans (fz.trans hU)).then g4 (fun j e => by cases e; have := HWB.out.2; omega)
        have hOB := HOB.out eb off rfl (by omega)
        have HN : Hid (WatW w.heap.size w4 (w.heap.size + 2 + 1) (w.heap.size + 2) c (.slice ao L cap) ⟨os.take (k + 1), p, u⟩ (fun i j => if i = xg ∧ j = xf then q else B i j) (k + 1) ∧ Fr w w4 ∧ (LcZ w4 w.heap.size #[.int .i64 0, .int .i64 1, .int .i64 1, .int .i64 1, .int .i64 0, .int .i64 1, .int .i64 1, .int .i64 1000000, .int .i64 1000, .int .i64 1000, .int .i64 100000, .int .i64 100000, .int .i64 512, .int .i64 64, .int .i64 c.r, .int .i64 c.s, .int .i64 c.b, .int .i64 c.m, .int .i64 c.q, .int .i64 c.c, .int .i64 c.w] ∧ ReadsG LO w4 (some ⟨eb, off, none⟩) os) ∧ w.heap.size + 4 ≤ w4.heap.size) := by
          refine ⟨by rw [← HWB.out.1, ← HWB.out.2]; exact hput, hFw, ⟨?_, ?_⟩, ?_⟩
          · have h1 := (kL.fr fz).fr hU
            exact (g4.block _ h1.lt (fun e => by have := HWB.out.2; simp only [Option.some.injEq] at e; omega)).trans h1
          · refine (((HL.out.2).fr fz).fr hU).keep g4 (.inr fun e => ?_)
            have := HWB.out.2
            simp only [blk, Option.map_some, Option.some.injEq] at e
            omega
          · have := HZ.out
            have := fz.size
            have := hU.size
            have := g4.size
            omega
        clear hrun hM4 g4 hput hFw hOB hU0 t1 t2 t3 t4 t5 e3 e5 e10 hb hq hE hU HF HE HW HL HZ kL zO fz
        rw [HWB.out.1, HWB.out.2, HB3.out.1, HB3.out.2.1, HB3.out.2.2]
        go_wp2_with fail
        go_roundw
        case rel => exact ⟨k + 1, _, by omega, by go_num, HN.out.1, HN.out.2.1, HN.out.2.2.1, HN.out.2.2.2⟩
        case measure => simp [intOf]; omega
    · obtain rfl : k = os.length := by omega
      go_wp2_with fail
      go_ret
      refine ⟨w.heap.size + 2 + 1, w.heap.size + 2, B, os.length, rfl, ?_, by have := HR.out.2.2; omega, hF⟩
      have := HW.out
      rwa [List.take_length] at this
end Go.Proofs.Ytkfcchapfklpgaa
/-
  Has a watch room for one more?
-/
namespace Go.Proofs.Ytkfcchapfklpgaa
open Go.RowKit

set_option maxRecDepth 20000 in
set_option maxHeartbeats 4000000 in
theorem room_has {lo : Nat} {w : World} {wb mb : Nat} {c : Cf} {ao : Option Addr} {L cap : Nat} {xs : List Int} {s : Smp} {B : Int → Int → Nat} {N : Nat} (h : WatW lo w wb mb c (.slice ao L cap) s B N) (hc : cfB c = true) (hr : RisO s.os) (hi : InO s.os) (hL : xs.length = L) (hL3 : L ≤ 300) (hR : Reads w ao xs) (n g f : Int) (hn : 0 ≤ n ∧ n ≤ 299) (hg : I64 g) (hf : I64 f) (hs : (getO s.os g f).isSome = true) :
    Calls Try.prog 44 #[.pointer (some ⟨wb, 0, none⟩), .int .i64 n, .agg #[.int .i64 g, .int .i64 f]] w fun e w' => e = .returned (.bool (true || decide (s.os.length < 300) || !onB c xs n)) ∧ Fr w w' := by
  have qc := cfB_in hc
  have HL := h.asks hg hf
  rw [hs] at HL
  simp only [if_true] at HL
  obtain ⟨SA, hSA⟩ : ∃ SA, lbV c (B g f) = .agg #[.pointer (some ⟨B g f, 0, none⟩), .func (.func 75) SA #[]] := ⟨_, rfl⟩
  obtain ⟨P, hP⟩ : ∃ P, P = B g f := ⟨_, rfl⟩
  rw [hSA] at HL
  rw [← hP] at HL
  clear hSA hP
  have HL : Hid _ := HL
  have cO := fun u (k : Fr w u) => on_any c ao L cap xs n u hL hL3 (hR.fr k) qc.2.1.1 hn.1 (by omega)
  obtain ⟨ON, hON⟩ : ∃ ON, ON = onB c xs n := ⟨_, rfl⟩
  simp only [← hON] at cO
  rw [← hON]
  have HW : Hid (WatW lo w wb mb c (.slice ao L cap) s B N) := h
  have cM := fun u (k : Fr w u) => (h.fr k).map.len hr hi Try.underlying88 3
  obtain ⟨ML, hML⟩ : ∃ ML, ML = s.os.length := ⟨_, rfl⟩
  rw [← hML]
  simp only [← hML] at cM
  have fA := Fr.alloc w (.cells #[.int .i64 g, .int .i64 f] 74)
  have kO : KyZ (w.alloc (.cells #[.int .i64 g, .int .i64 f] 74)) w.heap.size 74 #[.int .i64 g, .int .i64 f] := heap_alloc_new _ _
  have hm := (h.fr fA).box.cm
  clear h hc hr hi hL hL3 hR hn hg hf hs hON hML qc
  go_enter Try.func44, Try.ntmps44
  go_wp2_with fail
  obtain ⟨W, hW⟩ : ∃ W, W = w.alloc (.cells #[.int .i64 g, .int .i64 f] 74) := ⟨_, rfl⟩
  rw [← hW] at fA kO hm ⊢
  clear hW
  have o0 := kO.c0
  have o1 := kO.c1
  have l1 := HL.out _ (fA.trans (Fr.drew W))
  have l2 := HL.out _ ((fA.trans (Fr.alloc W (.cells #[.pointer none, .nilFunc] 93))).trans (Fr.drew _))
  go_region_held3 (fun u => u.cell? ⟨wb, 22, none⟩ = some (.map (some mb)) ∧ u.cell? ⟨w.heap.size, 0, none⟩ = some (.int .i64 g) ∧ u.cell? ⟨w.heap.size, 1, none⟩ = some (.int .i64 f)) (go_keep) (fail)
  all_goals (
    clear l1 l2 HL o0 o1 hm kO
    obtain ⟨V, hV⟩ : ∃ V, V = (W.alloc (.cells #[.pointer (some ⟨P, 0, none⟩), .func (.func 75) SA #[]] 93)).drew := ⟨_, rfl⟩
    have fV : Fr w V := fA.trans (by rw [hV]; exact (Fr.alloc _ _).trans (Fr.drew _))
    rw [← hV]
    clear hV fA
    clear cO cM HW
    have hne := Later.some V
    go_wp2_with fail
    refine wp_region_grown (by kernel_rfl) (by kernel_rfl) ?_
    repeat (go_big_quiet_step (fail))
    refine wpQuiet_nil ?_
    rintro _ ⟨σ, rfl⟩
    go_wp2_with fail
    go_ret
    exact ⟨ret_bool (by simp), fV.trans σ.fr⟩)
set_option maxRecDepth 20000 in
set_option maxHeartbeats 4000000 in
theorem room_new {lo : Nat} {w : World} {wb mb : Nat} {c : Cf} {ao : Option Addr} {L cap : Nat} {xs : List Int} {s : Smp} {B : Int → Int → Nat} {N : Nat} (h : WatW lo w wb mb c (.slice ao L cap) s B N) (hc : cfB c = true) (hr : RisO s.os) (hi : InO s.os) (hL : xs.length = L) (hL3 : L ≤ 300) (hR : Reads w ao xs) (n g f : Int) (hn : 0 ≤ n ∧ n ≤ 299) (hg : I64 g) (hf : I64 f) (hs : (getO s.os g f).isSome = false) :
    Calls Try.prog 44 #[.pointer (some ⟨wb, 0, none⟩), .int .i64 n, .agg #[.int .i64 g, .int .i64 f]] w fun e w' => e = .returned (.bool (false || decide (s.os.length < 300) || !onB c xs n)) ∧ Fr w w' := by
  have qc := cfB_in hc
  have HL := h.asks hg hf
  rw [hs] at HL
  simp only [Bool.false_eq_true, if_false] at HL
  have HL : Hid _ := HL
  have cO := fun u (k : Fr w u) => on_any c ao L cap xs n u hL hL3 (hR.fr k) qc.2.1.1 hn.1 (by omega)
  obtain ⟨ON, hON⟩ : ∃ ON, ON = onB c xs n := ⟨_, rfl⟩
  simp only [← hON] at cO
  rw [← hON]
  have HW : Hid (WatW lo w wb mb c (.slice ao L cap) s B N) := h
  have cM := fun u (k : Fr w u) => (h.fr k).map.len hr hi Try.underlying88 3
  obtain ⟨ML, hML⟩ : ∃ ML, ML = s.os.length := ⟨_, rfl⟩
  rw [← hML]
  simp only [← hML] at cM
  have fA := Fr.alloc w (.cells #[.int .i64 g, .int .i64 f] 74)
  have kO : KyZ (w.alloc (.cells #[.int .i64 g, .int .i64 f] 74)) w.heap.size 74 #[.int .i64 g, .int .i64 f] := heap_alloc_new _ _
  have hm := (h.fr fA).box.cm
  clear h hc hr hi hL hL3 hR hn hg hf hs hON hML qc
  go_enter Try.func44, Try.ntmps44
  go_wp2_with fail
  obtain ⟨W, hW⟩ : ∃ W, W = w.alloc (.cells #[.int .i64 g, .int .i64 f] 74) := ⟨_, rfl⟩
  rw [← hW] at fA kO hm ⊢
  clear hW
  have o0 := kO.c0
  have o1 := kO.c1
  have l1 := HL.out _ (fA.trans (Fr.drew W))
  have l2 := HL.out _ ((fA.trans (Fr.alloc W (.cells #[.pointer none, .nilFunc] 93))).trans (Fr.drew _))
  go_region_held3 (fun u => u.cell? ⟨wb, 22, none⟩ = some (.map (some mb)) ∧ u.cell? ⟨w.heap.size, 0, none⟩ = some (.int .i64 g) ∧ u.cell? ⟨w.heap.size, 1, none⟩ = some (.int .i64 f)) (go_keep) (fail)
  all_goals (
    clear l1 l2 HL o0 o1 hm kO
    obtain ⟨V, hV⟩ : ∃ V, V = (W.alloc (.cells #[.pointer none, .nilFunc] 93)).drew := ⟨_, rfl⟩
    have fV : Fr w V := fA.trans (by rw [hV]; exact (Fr.alloc _ _).trans (Fr.drew _))
    rw [← hV]
    clear hV fA
    have hx := HW.out.fr fV
    have e1 : ∀ s : Later V, s.u.cell? ⟨wb, 22, none⟩ = some (.map (some mb)) := fun s => s.fr.cell hx.box.cm
    have e2 : ∀ s : Later V, s.u.cell? ⟨wb, 21, none⟩ = some (.slice ao L cap) := fun s => s.fr.cell hx.box.cx
    have eL : ∀ v, (∃ s : Later V, v = s.u) → (Instr.loadAt 71 (.pointer (some ⟨wb, 0, none⟩))).run Try.prog v = .ok (.agg #[.int .i64 0, .int .i64 1, .int .i64 1, .int .i64 1, .int .i64 0, .int .i64 1, .int .i64 1, .int .i64 1000000, .int .i64 1000, .int .i64 1000, .int .i64 100000, .int .i64 100000, .int .i64 512, .int .i64 64, .int .i64 c.r, .int .i64 c.s, .int .i64 c.b, .int .i64 c.m, .int .i64 c.q, .int .i64 c.c, .int .i64 c.w]) v := by
      rintro _ ⟨σ, rfl⟩
      exact (hx.box.fr σ.fr).load
    have eM : ∀ s : Later V, (Builtin.len_ #[88] 3 #[.map (some mb)]).run Try.prog s.u = .ok (.int .i64 ML) s.u := fun s => cM s.u (fV.trans s.fr)
    have cO := fun σ : Later V => cO σ.u (fV.trans σ.fr)
    have hne := Later.some V
    clear cM HW hx
    by_cases h3 : ML < 300
    · have hd : decide ((ML : Int) < 300) = true := decide_eq_true (by omega)
      have HD : Hid (decide (ML < 300) = true) := decide_eq_true h3
      clear cO eL e2
      go_wp2_with fail
      refine wp_region_grown (by kernel_rfl) (by kernel_rfl) ?_
      repeat (go_big_quiet_step (fail))
      refine wpQuiet_nil ?_
      rintro _ ⟨σ, rfl⟩
      go_wp2_with fail
      go_ret
      exact ⟨ret_bool (by rw [HD.out]; simp), fV.trans σ.fr⟩
    · have hd : decide ((ML : Int) < 300) = false := decide_eq_false (by omega)
      have HD : Hid (decide (ML < 300) = false) := decide_eq_false h3
      go_wp2_with fail
      refine wp_region_grown (by kernel_rfl) (by kernel_rfl) ?_
      repeat (first | (refine quiet_load rfl 71 (.tmp 30) (.agg #[.int .i64 0, .int .i64 1, .int .i64 1, .int .i64 1, .int .i64 0, .int .i64 1, .int .i64 1, .int .i64 1000000, .int .i64 1000, .int .i64 1000, .int .i64 100000, .int .i64 100000, .int .i64 512, .int .i64 64, .int .i64 c.r, .int .i64 c.s, .int .i64 c.b, .int .i64 c.m, .int .i64 c.q, .int .i64 c.c, .int .i64 c.w]) rfl eL ?_; simp only [Act.put, List.setIfInBounds_toArray, List.set_cons_succ, List.set_cons_zero]) | (go_big_quiet_step (with_reducible exact Calls.grown_of (cO _))))
      refine wpQuiet_nil ?_
      rintro _ ⟨σ, rfl⟩
      go_wp2_with fail
      go_ret
      exact ⟨ret_bool (by rw [HD.out]; simp), fV.trans σ.fr⟩)
theorem room_any {lo : Nat} {w : World} {wb mb : Nat} {c : Cf} {ao : Option Addr} {L cap : Nat} {xs : List Int} {s : Smp} {B : Int → Int → Nat} {N : Nat} (h : WatW lo w wb mb c (.slice ao L cap) s B N) (hc : cfB c = true) (hr : RisO s.os) (hi : InO s.os) (hL : xs.length = L) (hL3 : L ≤ 300) (hR : Reads w ao xs) (n g f : Int) (hn : 0 ≤ n ∧ n ≤ 299) (hg : I64 g) (hf : I64 f) :
    Calls Try.prog 44 #[.pointer (some ⟨wb, 0, none⟩), .int .i64 n, .agg #[.int .i64 g, .int .i64 f]] w fun e w' => e = .returned (.bool ((getO s.os g f).isSome || decide (s.os.length < 300) || !onB c xs n)) ∧ Fr w w' := by
  cases hb : (getO s.os g f).isSome
  · exact room_new h hc hr hi hL hL3 hR n g f hn hg hf hb
  · exact room_has h hc hr hi hL hL3 hR n g f hn hg hf hb
end Go.Proofs.Ytkfcchapfklpgaa
/-
  A watch looks: the walk.
-/
namespace Go.Proofs.Ytkfcchapfklpgaa
open Go.RowKit

/-- The limited config of a watch is read. -/
theorem load_wt {ops : Array Oper} {rest : List Oper} {o : Oper} {a : Act} {w : World} {Q : Exit → Act → World → Prop} {b : Nat} {c : Cf} {x m p u : Value} (hw : Region.wanted o (yielded ops a.tmps) = true) (y : Operand) (ho : o.op = .load 71 y)
    (hx : a.eval y = .pointer (some ⟨b, 0, none⟩)) (h : WtZ w b c x m p u) (k : wpList Try.prog ops Q rest (a.put o.dst (.agg #[.int .i64 0, .int .i64 1, .int .i64 1, .int .i64 1, .int .i64 0, .int .i64 1, .int .i64 1, .int .i64 1000000, .int .i64 1000, .int .i64 1000, .int .i64 100000, .int .i64 100000, .int .i64 512, .int .i64 64, .int .i64 c.r, .int .i64 c.s, .int .i64 c.b, .int .i64 c.m, .int .i64 c.q, .int .i64 c.c, .int .i64 c.w])) w) : wpList Try.prog ops Q (o :: rest) a w := by
  refine wpList_step fun K hK => ?_
  rw [if_pos hw]
  have hr := h.load
  unfold Oper.wp execOp
  simp only [ho, hx, Sem.run_bind, Sem.run_pure, Result.andThen_ok, hr]
  exact hK _ _ k

/-- What is right of a sampler as long as a watch stands at it. -/
structure SmR (c : Cf) (s : Smp) : Prop where
  cf : cfB c = true
  ow : ∀ o ∈ s.os, owB c o = true
  ris : RisO s.os
  p : -1 ≤ s.p ∧ s.p ≤ 300
  u : 0 ≤ s.u ∧ s.u ≤ c.q

theorem wp_field {o : Oper} {a : Act} {u : World} {K : Act → World → Prop} {Q : Exit → Act → World → Prop} {v : Value} (t : TypeId) (x : Operand) (i : Nat) (ho : o.op = .field t x i) (hr : (Instr.field t (a.eval x) i).run Try.prog u = .ok v u) (hK : K (a.put o.dst v) u) : o.wp Try.prog a u K Q := by
  unfold Oper.wp execOp
  simp [ho, hr, Result.andThen]
  exact hK
/-- A world behind a step. -/
structure PostL (lo : Nat) (w : World) (wb mb : Nat) (c : Cf) (x : Value) (s : Smp) (N : Nat) where
  u : World
  h : ∃ B' N', N' ≤ N + 1 ∧ WatW lo u wb mb c x s B' N'
  k : KpW lo w u

set_option maxRecDepth 20000 in
set_option maxHeartbeats 8000000 in
theorem wlook_any {lo : Nat} {w : World} {wb mb : Nat} {c : Cf} {ao : Option Addr} {L cap : Nat} {xs : List Int} {s : Smp} {B : Int → Int → Nat} {N : Nat} (h : WatW lo w wb mb c (.slice ao L cap) s B N) (hS : SmR c s) (hL : xs.length = L) (hL3 : L ≤ 300) (hR : Reads w ao xs) (hlo : lo ≤ w.heap.size) (hN : N < 1000000) (n g f : Int) (hn : 0 ≤ n ∧ n ≤ 299) (hg : 0 ≤ g ∧ g ≤ 15) (hf : 0 ≤ f ∧ f ≤ 999) :
    Calls Try.prog 45 #[.pointer (some ⟨wb, 0, none⟩), .int .i64 n, .agg #[.int .i64 g, .int .i64 f]] w fun e w' => e = .returned (.bool (lkB c xs s n g f)) ∧ (∃ B' N', N' ≤ N + 1 ∧ WatW lo w' wb mb c (.slice ao L cap) (lkS c xs s n g f) B' N') ∧ KpW lo w w' := by
  have qc := cfB_in hS.cf
  have cO := fun u (k : Fr w u) => on_any c ao L cap xs n u hL hL3 (hR.fr k) qc.2.1.1 hn.1 (by omega)
  have cP := fun u => period_any c n u qc.2.1.1 hn.1 (by omega)
  have HW : Hid (WatW lo w wb mb c (.slice ao L cap) s B N) := h
  have HS : Hid (SmR c s ∧ lo ≤ w.heap.size ∧ N < 1000000 ∧ I64 g ∧ I64 f) := ⟨hS, hlo, hN, ⟨by omega, by omega⟩, ⟨by omega, by omega⟩⟩
  have H0 : Hid (onB c xs n = false → lkS c xs s n g f = s ∧ lkB c xs s n g f = false) := fun q => by simp [lkS, lkB, q]
  have H1 : Hid (onB c xs n = true → lkS c xs s n g f = ⟨putO s.os ⟨g, f, stB1 c (ofO c s.os g f)⟩, n / c.s, if lkT c s n g f then lkU c s n + 1 else lkU c s n⟩ ∧ lkB c xs s n g f = lkT c s n g f) := fun q => by simp [lkS, lkB, q]
  obtain ⟨RS, hRS⟩ : ∃ RS, RS = lkS c xs s n g f := ⟨_, rfl⟩
  obtain ⟨RB, hRB⟩ : ∃ RB, RB = lkB c xs s n g f := ⟨_, rfl⟩
  rw [← hRS, ← hRB] at H0 H1 ⊢
  obtain ⟨ON, hON⟩ : ∃ ON, ON = onB c xs n := ⟨_, rfl⟩
  simp only [← hON] at cO
  rw [← hON] at H0 H1
  have kO : KyZ (w.alloc (.cells #[.int .i64 g, .int .i64 f] 74)) w.heap.size 74 #[.int .i64 g, .int .i64 f] := heap_alloc_new _ _
  have fA := Fr.alloc w (.cells #[.int .i64 g, .int .i64 f] 74)
  clear hRS hRB hON h hS hL hL3 hR hlo hN hn hg hf qc
  go_enter Try.func45, Try.ntmps45
  go_wp2_with fail
  obtain ⟨W, hW⟩ : ∃ W, W = w.alloc (.cells #[.int .i64 g, .int .i64 f] 74) := ⟨_, rfl⟩
  rw [← hW] at kO fA ⊢
  clear hW
  have hw0 := HW.out.fr fA
  have e1 : ∀ s : Later W, s.u.cell? ⟨wb, 21, none⟩ = some (.slice ao L cap) := fun s => s.fr.cell hw0.box.cx
  have eL : ∀ v, (∃ s : Later W, v = s.u) → (Instr.loadAt 71 (.pointer (some ⟨wb, 0, none⟩))).run Try.prog v = .ok (.agg #[.int .i64 0, .int .i64 1, .int .i64 1, .int .i64 1, .int .i64 0, .int .i64 1, .int .i64 1, .int .i64 1000000, .int .i64 1000, .int .i64 1000, .int .i64 100000, .int .i64 100000, .int .i64 512, .int .i64 64, .int .i64 c.r, .int .i64 c.s, .int .i64 c.b, .int .i64 c.m, .int .i64 c.q, .int .i64 c.c, .int .i64 c.w]) v := by
    rintro _ ⟨σ, rfl⟩
    exact (hw0.box.fr σ.fr).load
  have cO := fun σ : Later W => cO σ.u (fA.trans σ.fr)
  have hne := Later.some W
  refine wp_region_grown (by kernel_rfl) (by kernel_rfl) ?_
  repeat (first | (refine quiet_load rfl 71 (.tmp 10) (.agg #[.int .i64 0, .int .i64 1, .int .i64 1, .int .i64 1, .int .i64 0, .int .i64 1, .int .i64 1, .int .i64 1000000, .int .i64 1000, .int .i64 1000, .int .i64 100000, .int .i64 100000, .int .i64 512, .int .i64 64, .int .i64 c.r, .int .i64 c.s, .int .i64 c.b, .int .i64 c.m, .int .i64 c.q, .int .i64 c.c, .int .i64 c.w]) rfl eL ?_; simp only [Act.put, List.setIfInBounds_toArray, List.set_cons_succ, List.set_cons_zero]) | (go_big_quiet_step (with_reducible exact Calls.grown_of (cO _))))
  refine wpQuiet_nil ?_
  rintro _ ⟨σ, rfl⟩
  clear e1 eL cO hne
  have HV : Hid (Fr w σ.u) := fA.trans σ.fr
  have hw1 := hw0.fr σ.fr
  replace kO := kO.fr σ.fr
  obtain ⟨V, hV⟩ : ∃ V, V = σ.u := ⟨_, rfl⟩
  rw [← hV] at HV hw1 kO ⊢
  clear hV σ hw0 fA W
  cases ON
  · have HF : Hid (RS = s ∧ RB = false) := H0.out rfl
    clear H1 H0
    go_wp2_with fail
    go_ret
    refine ⟨ret_bool HF.out.2.symm, ⟨B, N, by omega, ?_⟩, .of_fr HV.out⟩
    rw [HF.out.1]
    exact hw1
  have HT : Hid _ := H1.out rfl
  clear H0 H1
  have hbx := hw1.box
  go_wp2_with (refine load_wt rfl (.tmp 21) rfl rfl hbx ?_)
  clear hbx
  refine (cP _).mono ?_
  rintro e u1 ⟨rfl, f1⟩
  have HV : Hid (Fr w u1) := HV.out.trans f1
  replace hw1 := hw1.fr f1
  replace kO := kO.fr f1
  clear f1 cP cO
  obtain ⟨PQ, hPQ⟩ : ∃ PQ, PQ = n / c.s := ⟨_, rfl⟩
  rw [← hPQ]
  have HQ : Hid (PQ = n / c.s) := hPQ
  clear hPQ
  have dp := hw1.box.cp
  have du := hw1.box.cu
  have df := fun i => hw1.box.free i
  by_cases hp : s.p = PQ
  case' pos =>
    have hne : (PQ != s.p) = false := by simp [hp]
    have HD : Hid (∃ u2, WatW lo u2 wb mb c (.slice ao L cap) ⟨s.os, PQ, lkU c s n⟩ B N ∧ KpW lo w u2 ∧ KyZ u2 w.heap.size 74 #[.int .i64 g, .int .i64 f] ∧ u2 = u1) := by
      refine ⟨u1, ?_, .of_fr HV.out, kO, rfl⟩
      have : lkU c s n = s.u := by rw [lkU, if_pos (by rw [hp]; exact HQ.out)]
      rw [this, ← hp]
      exact hw1
    clear hp
    go_upto_region 6 with fail
  case' neg =>
    have hne : (PQ != s.p) = true := by simpa using fun e => hp e.symm
    have HD : Hid (∃ u2, WatW lo u2 wb mb c (.slice ao L cap) ⟨s.os, PQ, lkU c s n⟩ B N ∧ KpW lo w u2 ∧ KyZ u2 w.heap.size 74 #[.int .i64 g, .int .i64 f] ∧ u2 = (u1.setCell ⟨wb, 23, none⟩ (.int .i64 PQ)).setCell ⟨wb, 24, none⟩ (.int .i64 0)) := by
      have h1 := hw1.setP PQ
      refine ⟨_, ?_, ?_, (kO.keep (grown_set u1 wb 23 (.int .i64 PQ)) ?_).keep (grown_set _ wb 24 (.int .i64 0)) ?_, rfl⟩
      · have : lkU c s n = 0 := by rw [lkU, if_neg (fun e => hp (by rw [e]; exact HQ.out.symm))]
        rw [this]
        exact h1.setU 0
      · exact ((KpW.of_fr HV.out).trans (.at_wt hw1.box hw1.low.1 (grown_set _ _ _ _))).trans (.at_wt h1.box h1.low.1 (grown_set _ _ _ _))
      · have := HW.out.box.lt; simp only [ne_eq, Option.some.injEq]; omega
      · have := HW.out.box.lt; simp only [ne_eq, Option.some.injEq]; omega
    clear hp
    go_upto_region 6 with fail
  all_goals (
    clear hne dp du df kO hw1 HV
    obtain ⟨u2, hw2, hk2, kO, e2⟩ := HD.out
    clear HD
    rw [← e2]
    clear e2
    obtain ⟨hS, hlo, hN, hg, hf⟩ := HS.out
    have o0 := kO.c0
    have o1 := kO.c1
    have cB := fun u (k : Fr u2 u) => burstOf_any (hw2.fr k) hS.ris (by have := hk2.size; have := k.size; omega) hN hg hf
    simp only at cB
    have q0 : ∀ s : Later u2, s.u.cell? ⟨w.heap.size, 0, none⟩ = some (.int .i64 g) := fun s => s.fr.cell o0
    have q1 : ∀ s : Later u2, s.u.cell? ⟨w.heap.size, 1, none⟩ = some (.int .i64 f) := fun s => s.fr.cell o1
    have hne := Later.some u2
    have HK2 : Hid (KpW lo w u2) := hk2
    clear o0 o1 kO hk2 hS hlo hN hg hf
    have hfld : ∀ p u, (Instr.field 93 (lbV c p) 1).run Try.prog u = .ok (.func (.func 75) #[.agg #[.pointer (some ⟨p, 0, none⟩), .int .i64 c.r, .int .i64 c.s, .int .i64 c.b, .int .i64 c.m, .int .i64 c.q, .int .i64 c.c, .int .i64 c.w]] #[]) u := fun p u => by kernel_rfl
    refine wp_region_force (C := fun w' => ∃ s : Later u2, w' = s.u) (C2 := fun w' => ∃ s : PostL lo w wb mb c (.slice ao L cap) ⟨putO s.os ⟨g, f, stB1 c (ofO c s.os g f)⟩, PQ, lkU c s n⟩ N, w' = s.u) 2 4 (by kernel_rfl) (by kernel_rfl) ⟨⟨u2.drew, Fr.drew u2⟩, rfl⟩ ?_
    simp only [List.take_succ_cons, List.take_zero, List.drop_succ_cons, List.drop_zero]
    repeat (go_big_quiet_step (fail))
    refine wpQuiet_nil ?_
    rintro _ ⟨σ, rfl⟩
    refine ⟨rfl, ?_⟩
    go_simp
    refine (cB _ σ.fr).mono ?_
    rintro e u3 ⟨p, B', rfl, hw3, hp, k3⟩
    have HK3 : Hid (KpW lo w u3) := (HK2.out.trans (.of_fr σ.fr)).trans k3
    clear k3 HK2 q0 q1 hne cB
    obtain ⟨hS, hlo, hN, hg, hf⟩ := HS.out
    have hb := of_ok hS.cf hS.ow g f
    have HM : Hid (getO (putO s.os ⟨g, f, ofO c s.os g f⟩) g f = some (ofO c s.os g f) ∧ RisO (putO s.os ⟨g, f, ofO c s.os g f⟩) ∧ putO (putO s.os ⟨g, f, ofO c s.os g f⟩) ⟨g, f, stB1 c (ofO c s.os g f)⟩ = putO s.os ⟨g, f, stB1 c (ofO c s.os g f)⟩) := ⟨by rw [putO_get hS.ris, if_pos (samB_true.2 ⟨rfl, rfl⟩)], putO_ris hS.ris _, putO_putO _ _ _ _ _⟩
    have HTq : Hid (lkT c s n g f = (stB2 c (ofO c s.os g f) && decide (lkU c s n < c.q))) := rfl
    have hbz := hw3.bur _ (putO_self hS.ris ⟨g, f, ofO c s.os g f⟩)
    simp only at hbz
    rw [hp] at hbz
    have hlow : lo ≤ p := by rw [← hp]; exact hw3.low.2.2 _ (putO_self hS.ris ⟨g, f, ofO c s.os g f⟩)
    obtain ⟨b, hbb⟩ : ∃ b, b = ofO c s.os g f := ⟨_, rfl⟩
    rw [← hbb] at hb HM HTq hbz hw3 HT ⊢
    have cT : ∀ u, BuZ u p #[.int .i64 b.l, .int .i64 b.s, .int .i64 b.g] → Calls Try.prog 75 #[.agg #[.pointer (some ⟨p, 0, none⟩), .int .i64 c.r, .int .i64 c.s, .int .i64 c.b, .int .i64 c.m, .int .i64 c.q, .int .i64 c.c, .int .i64 c.w]] u fun e w' => e = .returned (.bool (stB2 c b)) ∧ BuZ w' p #[.int .i64 (stB1 c b).l, .int .i64 (stB1 c b).s, .int .i64 (stB1 c b).g] ∧ u.grownBy w' (some p) := fun u hu => by
      have q := bkB_in hb
      have qc := cfB_in q.1
      refine (step_any c b p u hu (by omega) (by omega) (by omega) (by omega)).mono ?_
      rintro e w' ⟨rfl, z, k⟩
      refine ⟨by simp [stB2, hb], ?_, k⟩
      have e : stB1 c b = (if b.l ≠ 0 then lookB c b else passB c b) := by simp only [stB1, hb, if_true, lookB, passB]
      rw [e]; exact z
    have cT := cT _ hbz
    obtain ⟨b', hbb'⟩ : ∃ b', b' = stB1 c b := ⟨_, rfl⟩
    rw [← hbb'] at HM cT HT ⊢
    obtain ⟨T, hT⟩ : ∃ T, T = stB2 c b := ⟨_, rfl⟩
    rw [← hT] at HTq cT
    have HB : Hid (BuZ u3 p #[.int .i64 b.l, .int .i64 b.s, .int .i64 b.g] ∧ lo ≤ p ∧ B' g f = p) := ⟨hbz, hlow, hp⟩
    clear hS hlo hN hg hf hb hbz hlow hp hbb hbb' hT
    refine ⟨rfl, ?_⟩
    refine wp_field 93 (.tmp 40) 1 rfl (hfld p u3) ?_
    refine ⟨rfl, ?_⟩
    simp only [Act.put, List.setIfInBounds_toArray, List.set_cons_succ, List.set_cons_zero]
    go_simp
    refine cT.mono ?_
    rintro e u4 ⟨rfl, hb4, k4⟩
    obtain ⟨hbz, hlow, hp⟩ := HB.out
    obtain ⟨hS, hlo, hN, hg, hf⟩ := HS.out
    have hu0 := hS.u
    have hq0 := (cfB_in hS.cf).2.2.2.2.1
    have hU : 0 ≤ lkU c s n ∧ lkU c s n ≤ 100000 := by unfold lkU; split <;> omega
    have hw4 := hw3.step HM.out.2.1 (g := g) (f := f) HM.out.1 (by rw [hp]; exact hb4) (by rw [hp]; exact k4)
    simp only at hw4
    rw [HM.out.2.2] at hw4
    obtain ⟨UL, hUL⟩ : ∃ UL, UL = lkU c s n := ⟨_, rfl⟩
    rw [← hUL] at hU hw4 HT HTq ⊢
    clear hUL
    have P4 : ∃ s' : PostL lo w wb mb c (.slice ao L cap) ⟨putO s.os ⟨g, f, b'⟩, PQ, UL⟩ N, u4 = s'.u := ⟨⟨u4, ⟨B', N + 1, Nat.le_refl _, hw4⟩, HK3.out.trans (.at_bur hbz hlow k4)⟩, rfl⟩
    have e24 : ∀ σ : PostL lo w wb mb c (.slice ao L cap) ⟨putO s.os ⟨g, f, b'⟩, PQ, UL⟩ N, σ.u.cell? ⟨wb, 24, none⟩ = some (.int .i64 UL) := fun σ => by
      obtain ⟨B', N', -, h⟩ := σ.h
      exact h.box.cu
    have e18 : ∀ σ : PostL lo w wb mb c (.slice ao L cap) ⟨putO s.os ⟨g, f, b'⟩, PQ, UL⟩ N, σ.u.cell? ⟨wb, 18, none⟩ = some (.int .i64 c.q) := fun σ => by
      obtain ⟨B', N', -, h⟩ := σ.h
      exact h.box.cf.2.2.2.2.1
    have HP : Hid _ := P4
    have hne : Nonempty (PostL lo w wb mb c (.slice ao L cap) ⟨putO s.os ⟨g, f, b'⟩, PQ, UL⟩ N) := by obtain ⟨q, -⟩ := P4; exact ⟨q⟩
    clear P4 hbz hlow hp hS hlo hN hg hf hu0 hq0 hw4 hw3 hb4 k4 HK3 HB HM cT hfld hw2 σ
    cases T
    · refine ⟨rfl, ?_⟩
      go_simp
      refine ⟨rfl, ?_⟩
      go_simp
      refine ⟨HP.out, ?_⟩
      repeat (go_big_quiet_step (fail))
      refine wpQuiet_nil ?_
      rintro _ ⟨σ, rfl⟩
      have HR : Hid (RS = ⟨putO s.os ⟨g, f, b'⟩, PQ, UL⟩ ∧ RB = false) := by
        have h1 := HT.out
        have h2 := HTq.out
        rw [Bool.false_and] at h2
        rw [h2] at h1
        refine ⟨?_, h1.2⟩
        rw [h1.1, HQ.out]; rfl
      clear e24 e18
      go_wp2_with fail
      go_ret
      refine ⟨ret_bool HR.out.2.symm, ?_, σ.k⟩
      rw [HR.out.1]
      exact σ.h
    · by_cases hq : UL < c.q
      · have hd : decide (c.q ≤ UL) = false := decide_eq_false (by omega)
        have hd2 : (c.q ≤ UL) = False := eq_false (by omega)
        refine ⟨rfl, ?_⟩
        go_simp
        refine ⟨rfl, ?_⟩
        go_simp
        refine ⟨HP.out, ?_⟩
        repeat (go_big_quiet_step (fail))
        refine wpQuiet_nil ?_
        first | (rintro _ ⟨σ, rfl⟩) | (intro σ)
        have HR : Hid (RS = ⟨putO s.os ⟨g, f, b'⟩, PQ, UL + 1⟩ ∧ RB = true) := by
          have h1 := HT.out
          have h2 := HTq.out
          rw [Bool.true_and, decide_eq_true hq] at h2
          rw [h2] at h1
          refine ⟨?_, h1.2⟩
          rw [h1.1, HQ.out]; rfl
        have c24 := e24 σ
        have f24 : ∀ i, σ.u.frozen? ⟨wb, i, none⟩ = false := fun i => by
          obtain ⟨B', N', -, h⟩ := σ.h
          exact h.box.free i
        clear e24 e18 hd hd2
        go_wp2_with fail
        go_ret
        obtain ⟨B', N', hN', h'⟩ := σ.h
        refine ⟨ret_bool HR.out.2.symm, ⟨B', N', hN', ?_⟩, σ.k.trans (.at_wt h'.box h'.low.1 (grown_set _ _ _ _))⟩
        rw [HR.out.1]
        exact h'.setU (UL + 1)
      · have hd : decide (c.q ≤ UL) = true := decide_eq_true (by omega)
        refine ⟨rfl, ?_⟩
        go_simp
        refine ⟨rfl, ?_⟩
        go_simp
        refine ⟨HP.out, ?_⟩
        repeat (go_big_quiet_step (fail))
        refine wpQuiet_nil ?_
        first | (rintro _ ⟨σ, rfl⟩) | (intro σ)
        have HR : Hid (RS = ⟨putO s.os ⟨g, f, b'⟩, PQ, UL⟩ ∧ RB = false) := by
          have h1 := HT.out
          have h2 := HTq.out
          rw [Bool.true_and, decide_eq_false hq] at h2
          rw [h2] at h1
          refine ⟨?_, h1.2⟩
          rw [h1.1, HQ.out]; rfl
        clear e24 e18
        go_wp2_with fail
        go_ret
        refine ⟨ret_bool HR.out.2.symm, ?_, σ.k⟩
        rw [HR.out.1]
        exact σ.h)
end Go.Proofs.Ytkfcchapfklpgaa
