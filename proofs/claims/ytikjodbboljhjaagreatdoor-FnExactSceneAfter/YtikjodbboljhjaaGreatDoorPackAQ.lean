/-
  The laws' marks on the scene with nothing in it; NewScene of both sides, to the letter.
-/
import Derived.Test.YtikjodbboljhjaaGreatDoorPackAE
import Derived.Test.YtikjodbboljhjaaGreatDoorPackAP
import Derived.Test.YtikjodbboljhjaaGreatDoorPackAA
import Derived.Test.YtikjodbboljhjaaGreatDoorPackAC
import Derived.Test.YtikjodbboljhjaaGreatDoorPackAB
import Derived.Test.YtikjodbboljhjaaGreatDoorPackAF
namespace Go.Proofs.YtikjodbboljhjaaGreatDoor
open Go.RowKit

theorem markLockS_nil (k : Int) (w : World) : Calls Tryz.prog 78 #[.slice none 0 0, .int .i64 k] w fun e w' => e = .returned (.int .i64 k) ∧ w' = w := by
  go_enter Tryz.func78, Tryz.ntmps78
  go_wp2_with fail
  refine wp_loop_rounds 1 ?_
  rw [rounds_succ]
  go_wp2_with fail
  go_ret
  exact ⟨rfl, rfl⟩
theorem markChanS_nil (k : Int) (w : World) : Calls Tryz.prog 79 #[.slice none 0 0, .int .i64 k] w fun e w' => e = .returned (.int .i64 k) ∧ w' = w := by
  go_enter Tryz.func79, Tryz.ntmps79
  go_wp2_with fail
  refine wp_loop_rounds 1 ?_
  rw [rounds_succ]
  go_wp2_with fail
  go_ret
  exact ⟨rfl, rfl⟩
theorem markCountS_nil (k : Int) (w : World) : Calls Tryz.prog 80 #[.slice none 0 0, .int .i64 k] w fun e w' => e = .returned (.int .i64 k) ∧ w' = w := by
  go_enter Tryz.func80, Tryz.ntmps80
  go_wp2_with fail
  refine wp_loop_rounds 1 ?_
  rw [rounds_succ]
  go_wp2_with fail
  go_ret
  exact ⟨rfl, rfl⟩
theorem markInt64S_nil (k : Int) (w : World) : Calls Tryz.prog 81 #[.slice none 0 0, .int .i64 k] w fun e w' => e = .returned (.int .i64 k) ∧ w' = w := by
  go_enter Tryz.func81, Tryz.ntmps81
  go_wp2_with fail
  refine wp_loop_rounds 1 ?_
  rw [rounds_succ]
  go_wp2_with fail
  go_ret
  exact ⟨rfl, rfl⟩
theorem heldLockS_nil (k : Int) (w : World) : Calls Tryz.prog 82 #[.slice none 0 0, .int .i64 k] w fun e w' => e = .returned (.int .i64 k) ∧ w' = w := by
  go_enter Tryz.func82, Tryz.ntmps82
  go_wp2_with fail
  refine wp_loop_rounds 1 ?_
  rw [rounds_succ]
  go_wp2_with fail
  go_ret
  exact ⟨rfl, rfl⟩
theorem heldChanS_nil (k : Int) (w : World) : Calls Tryz.prog 83 #[.slice none 0 0, .int .i64 k] w fun e w' => e = .returned (.int .i64 k) ∧ w' = w := by
  go_enter Tryz.func83, Tryz.ntmps83
  go_wp2_with fail
  refine wp_loop_rounds 1 ?_
  rw [rounds_succ]
  go_wp2_with fail
  go_ret
  exact ⟨rfl, rfl⟩
theorem heldCountS_nil (k : Int) (w : World) : Calls Tryz.prog 84 #[.slice none 0 0, .int .i64 k] w fun e w' => e = .returned (.int .i64 k) ∧ w' = w := by
  go_enter Tryz.func84, Tryz.ntmps84
  go_wp2_with fail
  refine wp_loop_rounds 1 ?_
  rw [rounds_succ]
  go_wp2_with fail
  go_ret
  exact ⟨rfl, rfl⟩
theorem heldInt64S_nil (k : Int) (w : World) : Calls Tryz.prog 85 #[.slice none 0 0, .int .i64 k] w fun e w' => e = .returned (.int .i64 k) ∧ w' = w := by
  go_enter Tryz.func85, Tryz.ntmps85
  go_wp2_with fail
  refine wp_loop_rounds 1 ?_
  rw [rounds_succ]
  go_wp2_with fail
  go_ret
  exact ⟨rfl, rfl⟩

set_option maxHeartbeats 400000 in
theorem markScene_nil (w : World) : Calls Tryz.prog 30 #[.agg #[.int .i64 1, .slice none 0 0, .slice none 0 0, .slice none 0 0, .slice none 0 0], .int .i64 1] w fun e w' => e = .returned (.int .i64 1) ∧ Fr w w' := by
  go_enter Tryz.func30, Tryz.ntmps30
  go_wp2_with fail
  refine (markLockS_nil _ _).mono ?_
  rintro e u1 ⟨rfl, rfl⟩
  go_wp2_with fail
  refine (markChanS_nil _ _).mono ?_
  rintro e u1 ⟨rfl, rfl⟩
  go_wp2_with fail
  refine (markCountS_nil _ _).mono ?_
  rintro e u1 ⟨rfl, rfl⟩
  go_wp2_with fail
  refine (markInt64S_nil _ _).mono ?_
  rintro e u1 ⟨rfl, rfl⟩
  go_wp2_with fail
  go_ret
  exact ⟨rfl, Fr.alloc _ _⟩

set_option maxHeartbeats 400000 in
theorem heldScene_nil (w : World) : Calls Tryz.prog 31 #[.agg #[.int .i64 1, .slice none 0 0, .slice none 0 0, .slice none 0 0, .slice none 0 0], .int .i64 1] w fun e w' => e = .returned (.int .i64 1) ∧ Fr w w' := by
  go_enter Tryz.func31, Tryz.ntmps31
  go_wp2_with fail
  refine (heldLockS_nil _ _).mono ?_
  rintro e u1 ⟨rfl, rfl⟩
  go_wp2_with fail
  refine (heldChanS_nil _ _).mono ?_
  rintro e u1 ⟨rfl, rfl⟩
  go_wp2_with fail
  refine (heldCountS_nil _ _).mono ?_
  rintro e u1 ⟨rfl, rfl⟩
  go_wp2_with fail
  refine (heldInt64S_nil _ _).mono ?_
  rintro e u1 ⟨rfl, rfl⟩
  go_wp2_with fail
  go_ret
  exact ⟨rfl, Fr.alloc _ _⟩

theorem specNew_is (w : World) : Calls Tryz.prog 128 #[] w fun e w' => e = .returned (.agg #[.int .i64 1, .slice none 0 0, .slice none 0 0, .slice none 0 0, .slice none 0 0]) ∧ Fr w w' := by
  go_enter Tryz.func128, Tryz.ntmps128
  go_wp2
  refine bodyPost_ret (v := .agg #[.int .i64 1, .slice none 0 0, .slice none 0 0, .slice none 0 0, .slice none 0 0]) (by simp [results, Tryz.results128, go_sem]) rfl ⟨rfl, Fr.alloc _ _⟩

theorem implNew_is (w : World) : Calls Tryz.prog 124 #[] w fun e w' => e = .returned (.agg #[.int .i64 1, .slice none 0 0, .slice none 0 0, .slice none 0 0, .slice none 0 0]) ∧ Fr w w' := by
  go_enter Tryz.func124, Tryz.ntmps124
  go_wp2
  refine bodyPost_ret (v := .agg #[.int .i64 1, .slice none 0 0, .slice none 0 0, .slice none 0 0, .slice none 0 0]) (by simp [results, Tryz.results124, go_sem]) rfl ⟨rfl, Fr.alloc _ _⟩
end Go.Proofs.YtikjodbboljhjaaGreatDoor
/-
  Marks in a scene.
-/
namespace Go.Proofs.YtikjodbboljhjaaGreatDoor
open Go.RowKit

theorem ReadsG.keepS {α : Type} {L : Lay α} {S : Nat → Prop} {w w' : World} {ao : Option Addr} {xs : List α} (h : ReadsG L w ao xs) (k : FrS S w w') (hs : ∀ b, blk ao = some b → ¬ S b) : ReadsG L w' ao xs := by
  refine ⟨h.len, fun i hi => ?_⟩
  obtain ⟨b, off, e, hc⟩ := h.at_ i hi
  refine ⟨b, off, e, fun j hj q hq => ?_⟩
  have h0 := hc j hj q hq
  have hlt : q < (L.cs xs[j]).length := by rw [L.len]; exact hq
  rw [List.getElem?_eq_getElem hlt] at h0 ⊢
  exact k.cell h0 (hs b (by rw [e]; rfl))
theorem RowAt.keepS {S : Nat → Prop} {w w' : World} {g : Nat} {T : TypeId} (h : RowAt w g T) (k : FrS S w w') (hs : ¬ S g) : RowAt w' g T := by
  obtain ⟨cur, hc⟩ := h
  exact ⟨cur, (k.block g (Array.getElem?_eq_some_iff.1 hc).1 hs).trans hc⟩
theorem OwnI.keepS {S : Nat → Prop} {w w' : World} {base g n c : Nat} {xs : List Int} (h : OwnI w base (.slice (some ⟨g, 0, none⟩) n c) xs) (k : FrS S w w') (hs : ¬ S g) : OwnI w' base (.slice (some ⟨g, 0, none⟩) n c) xs := by
  obtain ⟨⟨h1, h2⟩, h3⟩ := h
  rcases h2 with ⟨e, _⟩ | ⟨g', cap', cur, e, a1, hc, a2⟩
  · cases e
  · cases e
    exact ⟨⟨h1, .inr ⟨g, c, cur, rfl, a1, (k.block g (Array.getElem?_eq_some_iff.1 hc).1 hs).trans hc, a2⟩⟩, h3⟩

/-- The scene's lists hold the marks from 1 on. -/
structure HL (w : World) (s : Sv) (lvs : List Lv) : Prop where
  ll : lvs.length = s.ll
  tl : totL lvs ≤ 1000
  l1 : s.ll ≤ 1048576
  l2 : s.cl ≤ 1048576
  l3 : s.nl ≤ 1048576
  rl : ReadsG layL w s.lo (mkLs 1 lvs)
  rr : ∀ j (hj : j < lvs.length), Reads w lvs[j].ro (ups (1 + (totL (lvs.take j) : Int) + 2) lvs[j].rn)
  rc : ReadsG layC w s.co (mkC (1 + (totL lvs : Int)) s.cl)
  rn : ReadsG layN w s.no (mkN (1 + (totL lvs : Int) + 5 * (s.cl : Int)) s.nl)
  ro : Reads w s.oo (ups (1 + (totL lvs : Int) + 5 * (s.cl : Int) + 2 * (s.nl : Int)) s.ol)
theorem HL.fr {w w' : World} {s : Sv} {lvs : List Lv} (h : HL w s lvs) (k : Fr w w') : HL w' s lvs :=
  { h with rl := h.rl.fr k, rr := fun j hj => (h.rr j hj).fr k, rc := h.rc.fr k, rn := h.rn.fr k, ro := h.ro.fr k }
/-- The number behind the last mark. -/
def endS (s : Sv) (lvs : List Lv) : Int := 1 + (totL lvs : Int) + 5 * (s.cl : Int) + 2 * (s.nl : Int) + (s.ol : Int)
theorem HL.zero (w : World) : HL w ⟨0, none, 0, 0, none, 0, 0, none, 0, 0, none, 0, 0⟩ [] :=
  ⟨rfl, by simp [totL], by simp, by simp, by simp, ReadsG.nil _ _ _, fun j hj => absurd hj (by simp), ReadsG.nil _ _ _, ReadsG.nil _ _ _, Reads.nil _ _⟩

set_option maxHeartbeats 1000000 in
theorem heldScene_any (s : Sv) (lvs : List Lv) (w : World) (h : HL w s lvs) :
    Calls Tryz.prog 31 #[.agg #[.int .i64 s.g, .slice s.lo s.ll s.lc, .slice s.co s.cl s.cc, .slice s.no s.nl s.nc, .slice s.oo s.ol s.oc], .int .i64 1] w fun e w' => e = .returned (.int .i64 (endS s lvs)) ∧ Fr w w' := by
  have hT := h.tl
  have hL2 := h.l2
  have hL3 := h.l3
  have cL := fun u (f : Fr w u) => heldL_any s.lo s.ll s.lc 1 lvs u h.ll h.l1 (by omega) (by omega) (by omega) (h.rl.fr f) (h.fr f).rr
  have cC := fun u (f : Fr w u) => heldC_any s.co s.cl s.cc (1 + (totL lvs : Int)) u h.l2 (by omega) (by omega) (h.rc.fr f)
  have cN := fun u (f : Fr w u) => heldN_any s.no s.nl s.nc (1 + (totL lvs : Int) + 5 * (s.cl : Int)) u h.l3 (by omega) (by omega) (h.rn.fr f)
  have cO := fun u (f : Fr w u) => held_any s.oo s.ol s.oc (1 + (totL lvs : Int) + 5 * (s.cl : Int) + 2 * (s.nl : Int)) u (by omega) (by omega) (h.ro.fr f)
  have fW := Fr.alloc w (.cells #[.int .i64 s.g, .slice s.lo s.ll s.lc, .slice s.co s.cl s.cc, .slice s.no s.nl s.nc, .slice s.oo s.ol s.oc] 29)
  have k1 := ScK.new w s
  have hol : (s.ol : Int) ≤ 4294967296 := by have := h.ro.len; rw [ups_length] at this; omega
  unfold endS
  clear h
  have b1 : ((1 + (totL lvs : Int)) < 0) = False := by simp; omega
  have b2 : ((1 + (totL lvs : Int) + 5 * (s.cl : Int)) < 0) = False := by simp; omega
  have b3 : ((1 + (totL lvs : Int) + 5 * (s.cl : Int) + 2 * (s.nl : Int)) < 0) = False := by simp; omega
  have b4 : ((1 + (totL lvs : Int) + 5 * (s.cl : Int) + 2 * (s.nl : Int) + (s.ol : Int)) < 0) = False := by simp; omega
  obtain ⟨q1, hq1⟩ : ∃ q, q = (1 + (totL lvs : Int)) := ⟨_, rfl⟩
  rw [← hq1] at b1 b2 b3 b4 ⊢
  simp only [← hq1] at cL cC cN cO
  obtain ⟨q2, hq2⟩ : ∃ q, q = (q1 + 5 * (s.cl : Int)) := ⟨_, rfl⟩
  rw [← hq2] at b2 b3 b4 ⊢
  simp only [← hq2] at cC cN cO
  obtain ⟨q3, hq3⟩ : ∃ q, q = (q2 + 2 * (s.nl : Int)) := ⟨_, rfl⟩
  rw [← hq3] at b3 b4 ⊢
  simp only [← hq3] at cN cO
  obtain ⟨q4, hq4⟩ : ∃ q, q = (q3 + (s.ol : Int)) := ⟨_, rfl⟩
  rw [← hq4] at b4 ⊢
  simp only [← hq4] at cO
  clear hq1 hq2 hq3 hq4 hT hL2 hL3 hol
  obtain ⟨sg, lo, ll, lc, co, cl, cc, no, nl, nc, oo, ol, oc⟩ := s
  simp only at k1 cL cC cN cO fW ⊢
  go_enter Tryz.func31, Tryz.ntmps31
  go_wp2_with fail
  refine (cL _ fW).mono ?_
  rintro e u1 ⟨rfl, rfl⟩
  go_wp2_with fail
  refine (cC _ fW).mono ?_
  rintro e u1 ⟨rfl, rfl⟩
  go_wp2_with fail
  refine (cN _ fW).mono ?_
  rintro e u1 ⟨rfl, rfl⟩
  go_wp2_with fail
  refine (cO _ fW).mono ?_
  rintro e u1 ⟨rfl, rfl⟩
  go_wp2_with fail
  go_ret
  exact ⟨rfl, fW⟩
theorem HL.made {w u1 u2 u3 u4 : World} {base gl gc gn go ll lc cl cc nl nc ol oc : Nat} {lvs : List Lv} (sgi : Int) (hll : ll = lvs.length) (ht : totL lvs ≤ 1000) (l1 : ll ≤ 1048576) (l2 : cl ≤ 1048576) (l3 : nl ≤ 1048576) (ne : gc ≠ gn ∧ gc ≠ go ∧ gn ≠ go) (ap : ∀ x, BlkL gl lvs x → x ≠ gc ∧ x ≠ gn ∧ x ≠ go)
    (M : MX w u1 gl base 1 lvs lvs.length) (C : ReadsG layC u2 (some ⟨gc, 0, none⟩) (mkC (1 + (totL lvs : Int)) cl)) (g2 : u1.grownBy u2 (some gc)) (N : ReadsG layN u3 (some ⟨gn, 0, none⟩) (mkN (1 + (totL lvs : Int) + 5 * (cl : Int)) nl)) (g3 : u2.grownBy u3 (some gn)) (O : OwnI u4 base (.slice (some ⟨go, 0, none⟩) ol oc) (ups (1 + (totL lvs : Int) + 5 * (cl : Int) + 2 * (nl : Int)) ol)) (g4 : u3.grownBy u4 (some go)) :
    HL u4 ⟨sgi, some ⟨gl, 0, none⟩, ll, lc, some ⟨gc, 0, none⟩, cl, cc, some ⟨gn, 0, none⟩, nl, nc, some ⟨go, 0, none⟩, ol, oc⟩ lvs := by
  have a0 := ap gl (.inl rfl)
  have rd : ReadsG layL u1 (some ⟨gl, 0, none⟩) (mkLs 1 lvs) := by simpa using M.rd
  have nb : ∀ {a b : Nat}, a ≠ b → (some b : Option Nat) = none ∨ blk (some ⟨a, 0, none⟩) ≠ some b := fun h => .inr (by simpa [blk] using h)
  refine ⟨hll.symm, ht, l1, l2, l3, ((rd.keep g2 (nb a0.1)).keep g3 (nb a0.2.1)).keep g4 (nb a0.2.2), fun j hj => ?_, (C.keep g3 (nb ne.1)).keep g4 (nb ne.2.1), N.keep g4 (nb ne.2.2), O.reads⟩
  obtain ⟨gj, e, -, o⟩ := M.new j hj hj
  have aj := ap gj (.inr ⟨j, hj, e⟩)
  rw [e]
  have o2 := own_other o g2 aj.1
  have o3 := own_other o2 g3 aj.2.1
  exact (own_other o3 g4 aj.2.2).reads

set_option maxHeartbeats 2000000 in
theorem markScene_any {B : Nat → Prop} {base gl gc gn go : Nat} {lvs : List Lv} (s : Sv) (m : Scn) (w : World) (hR : ScR B w s m) (hO : ScO base w s m gl gc gn go lvs) :
    Calls Tryz.prog 30 #[.agg #[.int .i64 s.g, .slice s.lo s.ll s.lc, .slice s.co s.cl s.cc, .slice s.no s.nl s.nc, .slice s.oo s.ol s.oc], .int .i64 1] w fun e w' => e = .returned (.int .i64 (endS s lvs)) ∧ HL w' s lvs ∧ FrS (fun x => BlkL gl lvs x ∨ x = gc ∨ x = gn ∨ x = go) w w' := by
  have fW := Fr.alloc w (.cells #[.int .i64 s.g, .slice s.lo s.ll s.lc, .slice s.co s.cl s.cc, .slice s.no s.nl s.nc, .slice s.oo s.ol s.oc] 29)
  have k1 := ScK.new w s
  have hl : lvs.length ≤ 1048576 := by
    obtain ⟨l2, -, e, L⟩ := hR.lks
    have := hR.sl
    have := L.len
    have := hO.ll
    omega
  have ht := hO.tl
  have hcl := hR.cl
  have hnl := hR.nl
  have hol := hR.ol
  have hsc := hR.sc
  have hsn := hR.sn
  have hO1 := hO.fr fW
  have hR1 := hR.fr fW
  have hlo := hO.lo
  have hap := hO.ap
  have hne := hO.ne
  have cL := markL_any gl s.ll s.lc base 1 lvs _ hO.ll.symm (by rw [hO.ll]; exact hl) (by omega) (by omega) (by omega) hO1.rl hO1.ol
  have cC := fun u h hr => markC_any gc s.cl s.cc (1 + (totL lvs : Int)) m.cs u hcl.symm (by omega) (by omega) (by omega) h hr
  have cN := fun u h hr => markN_any gn s.nl s.nc (1 + (totL lvs : Int) + 5 * (s.cl : Int)) m.gs u hnl.symm (by omega) (by omega) (by omega) h hr
  have cO := fun u h => mark_any go s.ol s.oc base (1 + (totL lvs : Int) + 5 * (s.cl : Int) + 2 * (s.nl : Int)) m.os u hol.symm (by omega) (by omega) h
  have hC := hR1.chs
  have hN := hR1.cts
  have hrc := hO1.rc
  have hrn := hO1.rn
  have hoo := hO1.oo
  have hll := hO.ll
  obtain ⟨e1, e2, e3, e4⟩ : _ ∧ _ ∧ _ ∧ _ := ⟨hO.e1, hO.e2, hO.e3, hO.e4⟩
  unfold endS
  clear hO hR hO1 hR1 hol
  obtain ⟨sg, lo, ll, lc, co, cl, cc, no, nl, nc, oo, ol, oc⟩ := s
  simp only at k1 cL cC cN cO fW hC hN hrc hrn hoo e1 e2 e3 e4 hcl hnl hll ⊢
  subst e1 e2 e3 e4
  have HM := fun u1 u2 u3 u4 M C g2 N g3 O g4 => HL.made (w := w.alloc (.cells #[.int .i64 sg, .slice (some ⟨gl, 0, none⟩) ll lc, .slice (some ⟨gc, 0, none⟩) cl cc, .slice (some ⟨gn, 0, none⟩) nl nc, .slice (some ⟨go, 0, none⟩) ol oc] 29)) (u1 := u1) (u2 := u2) (u3 := u3) (u4 := u4) (base := base) (lc := lc) (cl := cl) (cc := cc) (nl := nl) (nc := nc) (ol := ol) (oc := oc) sg hll ht (by omega) (by omega) (by omega) hne hap M C g2 N g3 O g4
  have HK : Hid (∀ x, BlkL gl lvs x ∨ x = gc ∨ x = gn ∨ x = go → base ≤ x ∧ x < w.heap.size) := hlo
  have HP : Hid (∀ x, BlkL gl lvs x → x ≠ gc ∧ x ≠ gn ∧ x ≠ go) := hap
  obtain ⟨q1, hq1⟩ : ∃ q, q = (1 + (totL lvs : Int)) := ⟨_, rfl⟩
  simp only [← hq1] at cL cC cN cO HM ⊢
  obtain ⟨q2, hq2⟩ : ∃ q, q = (q1 + 5 * (cl : Int)) := ⟨_, rfl⟩
  simp only [← hq2] at cC cN cO HM ⊢
  obtain ⟨q3, hq3⟩ : ∃ q, q = (q2 + 2 * (nl : Int)) := ⟨_, rfl⟩
  simp only [← hq3] at cN cO HM ⊢
  obtain ⟨q4, hq4⟩ : ∃ q, q = (q3 + (ol : Int)) := ⟨_, rfl⟩
  simp only [← hq4] at cO ⊢
  have HN : Hid (gc ≠ gn ∧ gc ≠ go ∧ gn ≠ go) := hne
  clear hq1 hq2 hq3 hq4 ht hsc hsn hl hcl hnl hll hlo hap hne
  have nb : ∀ {a b : Nat}, a ≠ b → (some b : Option Nat) = none ∨ blk (some ⟨a, 0, none⟩) ≠ some b := fun h => .inr (by simpa [blk] using h)
  go_enter Tryz.func30, Tryz.ntmps30
  go_wp2_with fail
  refine (cL).mono ?_
  rintro e u1 ⟨rfl, M1⟩
  have S1 := M1.fr
  have k1 : ScK u1 w.heap.size ⟨sg, some ⟨gl, 0, none⟩, ll, lc, some ⟨gc, 0, none⟩, cl, cc, some ⟨gn, 0, none⟩, nl, nc, some ⟨go, 0, none⟩, ol, oc⟩ := (S1.block w.heap.size k1.lt (fun q => by have := HK.out _ (.inl q); omega)).trans k1
  obtain ⟨a0, a1, a2, a3, a4⟩ := k1.at
  simp only at a0 a1 a2 a3 a4
  have hC := hC.keepS S1 (fun b e q => by cases e; exact (HP.out _ q).1 rfl)
  have hN := hN.keepS S1 (fun b e q => by cases e; exact (HP.out _ q).2.1 rfl)
  have hrc := hrc.keepS S1 (fun q => (HP.out _ q).1 rfl)
  have hrn := hrn.keepS S1 (fun q => (HP.out _ q).2.1 rfl)
  have hoo := hoo.keepS S1 (fun q => (HP.out _ q).2.2 rfl)
  go_wp2_with fail
  refine (cC _ hC hrc).mono ?_
  rintro e u2 ⟨rfl, C2, -, g2⟩
  clear a0 a1 a2 a3 a4
  have k1 := k1.keep g2 (fun e => by cases e; have := HK.out _ (.inr (.inl rfl)); omega)
  obtain ⟨a0, a1, a2, a3, a4⟩ := k1.at
  simp only at a0 a1 a2 a3 a4
  have hN := hN.keep g2 (nb (HN.out.1.symm))
  have hrn := hrn.keep g2 (fun e => by cases e; exact HN.out.1 rfl)
  have hoo := own_other hoo g2 HN.out.2.1.symm
  go_wp2_with fail
  refine (cN _ hN hrn).mono ?_
  rintro e u3 ⟨rfl, N3, -, g3⟩
  clear a0 a1 a2 a3 a4
  have k1 := k1.keep g3 (fun e => by cases e; have := HK.out _ (.inr (.inr (.inl rfl))); omega)
  obtain ⟨a0, a1, a2, a3, a4⟩ := k1.at
  simp only at a0 a1 a2 a3 a4
  have hoo := own_other hoo g3 HN.out.2.2.symm
  go_wp2_with fail
  refine (cO _ hoo).mono ?_
  rintro e u4 ⟨rfl, O4, g4⟩
  go_wp2_with fail
  go_ret
  have F1 : FrS (fun x => BlkL gl lvs x ∨ x = gc ∨ x = gn ∨ x = go) _ u1 := ⟨S1.os, S1.tape, S1.output, S1.size, fun k hk hs => S1.block k hk (fun q => hs (.inl q))⟩
  exact ⟨rfl, HM u1 u2 u3 u4 M1 C2 g2 N3 g3 O4 g4, fW.toS.trans (F1.trans ((grown_toS g2 (.inr (.inl rfl))).trans ((grown_toS g3 (.inr (.inr (.inl rfl)))).trans (grown_toS g4 (.inr (.inr (.inr rfl)))))))⟩

set_option maxHeartbeats 400000 in
theorem markScene_zero (w : World) : Calls Tryz.prog 30 #[.agg #[.int .i64 0, .slice none 0 0, .slice none 0 0, .slice none 0 0, .slice none 0 0], .int .i64 1] w fun e w' => e = .returned (.int .i64 1) ∧ Fr w w' := by
  go_enter Tryz.func30, Tryz.ntmps30
  go_wp2_with fail
  refine (markLockS_nil _ _).mono ?_
  rintro e u1 ⟨rfl, rfl⟩
  go_wp2_with fail
  refine (markChanS_nil _ _).mono ?_
  rintro e u1 ⟨rfl, rfl⟩
  go_wp2_with fail
  refine (markCountS_nil _ _).mono ?_
  rintro e u1 ⟨rfl, rfl⟩
  go_wp2_with fail
  refine (markInt64S_nil _ _).mono ?_
  rintro e u1 ⟨rfl, rfl⟩
  go_wp2_with fail
  go_ret
  exact ⟨rfl, Fr.alloc _ _⟩

/-- A scene that may be marked: its lists are rows of their own between base and top, or it is the zero scene. -/
def Mky (base top : Nat) (w : World) (s : Sv) (m : Scn) : Prop :=
  (∃ gl gc gn go ys, ScO base w s m gl gc gn go ys ∧ ∀ x, (BlkL gl ys x ∨ x = gc ∨ x = gn ∨ x = go) → x < top) ∨ s = ⟨0, none, 0, 0, none, 0, 0, none, 0, 0, none, 0, 0⟩
theorem Mky.fr {base top : Nat} {w w' : World} {s : Sv} {m : Scn} (h : Mky base top w s m) (k : Fr w w') : Mky base top w' s m := by
  rcases h with ⟨gl, gc, gn, go, ys, h, q⟩ | h
  · exact .inl ⟨gl, gc, gn, go, ys, h.fr k, q⟩
  · exact .inr h
theorem Mky.keep {base top : Nat} {w w' : World} {s : Sv} {m : Scn} {row : Nat} (h : Mky base top w s m) (k : w.grownBy w' (some row)) (hr : row < base) : Mky base top w' s m := by
  rcases h with ⟨gl, gc, gn, go, ys, h, q⟩ | h
  · exact .inl ⟨gl, gc, gn, go, ys, h.keep k (.inl hr), q⟩
  · exact .inr h
theorem markS_any {B : Nat → Prop} {base top : Nat} (s : Sv) (m : Scn) (w : World) (hR : ScR B w s m) (h : Mky base top w s m) :
    Calls Tryz.prog 30 #[.agg #[.int .i64 s.g, .slice s.lo s.ll s.lc, .slice s.co s.cl s.cc, .slice s.no s.nl s.nc, .slice s.oo s.ol s.oc], .int .i64 1] w fun e w' => ∃ lvs, e = .returned (.int .i64 (endS s lvs)) ∧ HL w' s lvs ∧ FrS (fun x => base ≤ x ∧ x < top) w w' := by
  rcases h with ⟨gl, gc, gn, go, ys, h, q⟩ | rfl
  · refine (markScene_any s m w hR h).mono ?_
    rintro e w' ⟨rfl, H, f⟩
    exact ⟨ys, rfl, H, ⟨f.os, f.tape, f.output, f.size, fun k hk hs => f.block k hk (fun x => hs ⟨(h.lo k x).1, q k x⟩)⟩⟩
  · refine (markScene_zero w).mono ?_
    rintro e w' ⟨rfl, f⟩
    exact ⟨[], rfl, HL.zero w', f.toS⟩
theorem endS_pos (s : Sv) (lvs : List Lv) : 0 ≤ endS s lvs := by
  unfold endS
  omega
end Go.Proofs.YtikjodbboljhjaaGreatDoor
/-
  The program's SceneAfter: its scene may be marked.
-/
namespace Go.Proofs.YtikjodbboljhjaaGreatDoor
open Go.RowKit

theorem implAfterM_any (ao : Option Addr) (n c : Nat) (es : List Ev) (w : World) (hn : es.length = n) (h : ReadsE w ao es) (hs : Shapes w) (hab : ∀ k, blk ao = some k → k < w.heap.size) :
    Calls Tryz.prog 18 #[.slice ao n c] w fun x w' => ∃ s : Sv, x = .returned (.tuple #[.agg #[.int .i64 s.g, .slice s.lo s.ll s.lc, .slice s.co s.cl s.cc, .slice s.no s.nl s.nc, .slice s.oo s.ol s.oc], .bool (aftB es)]) ∧ ScR (fun x => w.heap.size ≤ x ∧ x < w'.heap.size) w' s (aftS es) ∧ Fr w w' ∧ Mky w.heap.size w'.heap.size w' s (aftS es) := by
  refine (implAfter_any ao n c es w hn h hs hab).mono ?_
  rintro x w' ⟨s, e, S, f, p, z⟩
  refine ⟨s, e, S, f, ?_⟩
  by_cases q : es.length ≤ 300
  · obtain ⟨gl, gc, gn, go, ys, O⟩ := p q
    exact .inl ⟨gl, gc, gn, go, ys, O, fun x hx => (O.lo x hx).2⟩
  · exact .inr (z q)
end Go.Proofs.YtikjodbboljhjaaGreatDoor
/-
  The walk of the laws' eqInt64S: are two lists of numbers alike?
-/
namespace Go.Proofs.YtikjodbboljhjaaGreatDoor
open Go.RowKit

set_option maxHeartbeats 400000 in
theorem eqI_any (ao bo : Option Addr) (n m c d : Nat) (xs ys : List Int) (w : World) (hn : xs.length = n) (hm : ys.length = m) (h : Reads w ao xs) (h' : Reads w bo ys) :
    Calls Tryz.prog 77 #[.slice ao n c, .slice bo m d] w fun e w' => e = .returned (.bool (decide (xs = ys))) ∧ ∃ nq, w' = w.drewN nq := by
  subst hn hm
  have hl := h.len
  by_cases hne : xs.length = ys.length
  · have hb : ((xs.length : Int) != (ys.length : Int)) = false := by simp [hne]
    have HNE : Hid (xs.length = ys.length) := hne
    clear hne
    go_enter Tryz.func77, Tryz.ntmps77
    go_wp2
    go_loopw [5] (fun i wr => ∃ k : Nat, k ≤ xs.length ∧ i = .int .i64 k ∧ Hid (xs.take k = ys.take k) ∧ ∃ nq, wr = w.drewN nq) (fun i _ => xs.length - (intOf i).toNat)
    case atStart => exact ⟨0, Nat.zero_le _, rfl, rfl, 0, rfl⟩
    case round =>
      obtain ⟨k, hk, rfl, HT, nq, rfl⟩ := hrel
      by_cases hlt : k < xs.length
      · have hlt' : k < ys.length := by have := HNE.out; omega
        obtain ⟨b, off, rfl, hc⟩ := h.at_ k hlt
        obtain ⟨b', off', rfl, hc'⟩ := h'.at_ k hlt'
        have hck := hc k hlt
        have hck' := hc' k hlt'
        rw [getD_at hlt] at hck
        rw [getD_at hlt'] at hck'
        clear hc hc' hb
        go_wp2
        go_quiet (fail)
        go_wp2
        · have hq : (xs[k] != ys[k]) = true := by assumption
          go_ret
          refine ⟨?_, _, drew2 _ _ _⟩
          rw [ne_of_at hlt hlt' (by simpa using hq)]
          rfl
        · have hq : (xs[k] != ys[k]) = false := by assumption
          go_roundw
          case rel => exact ⟨k + 1, by omega, by go_num, eq_step HNE.out hlt HT.out (by simpa using hq), _, rfl⟩
          case measure => simp [intOf]; omega
      · go_wp2
        go_ret
        refine ⟨?_, nq, rfl⟩
        have e : xs = ys := by
          have h1 := HT.out
          have h2 := HNE.out
          rwa [List.take_of_length_le (by omega), List.take_of_length_le (by omega)] at h1
        have : decide (xs = ys) = true := by simpa using e
        rw [this]
        rfl
  · have hb : ((xs.length : Int) != (ys.length : Int)) = true := by simp; omega
    go_enter Tryz.func77, Tryz.ntmps77
    go_wp2
    go_ret
    refine ⟨?_, 0, rfl⟩
    have : decide (xs = ys) = false := by simp only [decide_eq_false_iff_not]; intro e; exact hne (by rw [e])
    rw [this]
    rfl
end Go.Proofs.YtikjodbboljhjaaGreatDoor
/-
  The walks of the laws' eqScene and its parts, of two scenes that are one.
-/
namespace Go.Proofs.YtikjodbboljhjaaGreatDoor
open Go.RowKit

set_option maxHeartbeats 600000 in
theorem eqLock_same {B B' : Nat → Prop} (a b : Lv) (l : Lk) (w : World) (h : LkR B w a l) (h' : LkR B' w b l) :
    Calls Tryz.prog 139 #[.agg #[.int .i64 a.o, .int .i64 a.wr, .slice a.ro a.rn a.rc], .agg #[.int .i64 b.o, .int .i64 b.wr, .slice b.ro b.rn b.rc]] w fun e w' => e = .returned (.bool true) ∧ Fr w w' := by
  have f1 := Fr.alloc w (.cells #[.int .i64 a.o, .int .i64 a.wr, .slice a.ro a.rn a.rc] 47)
  have f2 := Fr.alloc (w.alloc (.cells #[.int .i64 a.o, .int .i64 a.wr, .slice a.ro a.rn a.rc] 47)) (.cells #[.int .i64 b.o, .int .i64 b.wr, .slice b.ro b.rn b.rc] 47)
  have e1 : a.o = b.o := h.o.trans h'.o.symm
  have e2 : a.wr = b.wr := h.wr.trans h'.wr.symm
  have cI := eqI_any a.ro b.ro a.rn b.rn a.rc b.rc l.rd l.rd ((w.alloc (.cells #[.int .i64 a.o, .int .i64 a.wr, .slice a.ro a.rn a.rc] 47)).alloc (.cells #[.int .i64 b.o, .int .i64 b.wr, .slice b.ro b.rn b.rc] 47)) h.rn.symm h'.rn.symm (h.rd.fr (f1.trans f2)) (h'.rd.fr (f1.trans f2))
  rw [decide_eq_true rfl] at cI
  have F := f1.trans f2
  clear h h' f1 f2
  obtain ⟨ao, aw, ar, an, ac⟩ := a
  obtain ⟨bo, bw, br, bn, bc⟩ := b
  simp only at e1 e2 cI F ⊢
  subst e1 e2
  go_enter Tryz.func139, Tryz.ntmps139
  go_wp2_with fail
  refine cI.mono ?_
  rintro e u1 ⟨rfl, nq, rfl⟩
  go_wp2_with fail
  go_ret
  exact ⟨rfl, F.trans (Fr.drewN _ nq)⟩

set_option maxHeartbeats 600000 in
theorem eqChan_same (c : Ch) (w : World) :
    Calls Tryz.prog 140 #[.agg #[.int .i64 c.o, .int .i64 c.cap, .int .i64 c.sent, .int .i64 c.got, .bool c.cl], .agg #[.int .i64 c.o, .int .i64 c.cap, .int .i64 c.sent, .int .i64 c.got, .bool c.cl]] w fun e w' => e = .returned (.bool true) ∧ Fr w w' := by
  have F := (Fr.alloc w (.cells #[.int .i64 c.o, .int .i64 c.cap, .int .i64 c.sent, .int .i64 c.got, .bool c.cl] 82)).trans (Fr.alloc _ (.cells #[.int .i64 c.o, .int .i64 c.cap, .int .i64 c.sent, .int .i64 c.got, .bool c.cl] 82))
  obtain ⟨o, cap, sent, got, cl⟩ := c
  simp only at F ⊢
  cases cl
  · go_enter Tryz.func140, Tryz.ntmps140
    go_wp2_with fail
    go_ret
    exact ⟨rfl, F⟩
  · go_enter Tryz.func140, Tryz.ntmps140
    go_wp2_with fail
    go_ret
    exact ⟨rfl, F⟩

set_option maxHeartbeats 600000 in
theorem eqCount_same (c : Ct) (w : World) :
    Calls Tryz.prog 141 #[.agg #[.int .i64 c.o, .int .i64 c.n], .agg #[.int .i64 c.o, .int .i64 c.n]] w fun e w' => e = .returned (.bool true) ∧ Fr w w' := by
  have F := (Fr.alloc w (.cells #[.int .i64 c.o, .int .i64 c.n] 85)).trans (Fr.alloc _ (.cells #[.int .i64 c.o, .int .i64 c.n] 85))
  obtain ⟨o, n⟩ := c
  simp only at F ⊢
  go_enter Tryz.func141, Tryz.ntmps141
  go_wp2_with fail
  go_ret
  exact ⟨rfl, F⟩

set_option maxHeartbeats 1000000 in
theorem eqCountS_same (ao bo : Option Addr) (n c d : Nat) (es : List Ct) (w : World) (hn : es.length = n) (hl : es.length ≤ 1048576) (h : ReadsG layN w ao es) (h' : ReadsG layN w bo es) :
    Calls Tryz.prog 76 #[.slice ao n c, .slice bo n d] w fun e w' => e = .returned (.bool true) ∧ Fr w w' := by
  subst hn
  go_enter Tryz.func76, Tryz.ntmps76
  go_wp2_with fail
  go_loopw [5] (fun i wr => ∃ k : Nat, k ≤ es.length ∧ i = .int .i64 k ∧ Fr w wr) (fun i _ => es.length - (intOf i).toNat)
  case atStart => exact ⟨0, Nat.zero_le _, rfl, Fr.refl w⟩
  case round =>
    obtain ⟨k, hk, rfl, hf⟩ := hrel
    by_cases hlt : k < es.length
    · obtain ⟨b, off, rfl, a0, a1⟩ := ct_at (h.fr hf) k hlt
      obtain ⟨b', off', rfl, x0, x1⟩ := ct_at (h'.fr hf) k hlt
      obtain ⟨e, he⟩ : ∃ e, e = es[k] := ⟨_, rfl⟩
      simp only [← he] at a0 a1 x0 x1
      clear he
      have cE := fun (s : Later wr) => eqCount_same e s.u
      have := Later.some wr
      have p0 : ∀ s : Later wr, s.u.cell? ⟨b, off + k * 2, none⟩ = some (.int .i64 e.o) := fun s => s.fr.cell a0
      have p1 : ∀ s : Later wr, s.u.cell? ⟨b, off + k * 2 + 1, none⟩ = some (.int .i64 e.n) := fun s => s.fr.cell a1
      have q0 : ∀ s : Later wr, s.u.cell? ⟨b', off' + k * 2, none⟩ = some (.int .i64 e.o) := fun s => s.fr.cell x0
      have q1 : ∀ s : Later wr, s.u.cell? ⟨b', off' + k * 2 + 1, none⟩ = some (.int .i64 e.n) := fun s => s.fr.cell x1
      clear a0 a1 x0 x1
      go_wp2_with fail
      refine wp_region_grown (by kernel_rfl) (by kernel_rfl) ?_
      repeat (go_big_quiet_step (with_reducible exact Calls.grown_of (cE _)))
      refine wpQuiet_nil ?_
      rintro _ ⟨s, rfl⟩
      go_wp2_with fail
      go_roundw
      case rel => exact ⟨k + 1, by omega, by go_num, hf.trans s.fr⟩
      case measure => simp [intOf]; omega
    · go_wp2_with fail
      go_ret
      exact ⟨rfl, hf⟩

set_option maxHeartbeats 1000000 in
theorem eqChanS_same (ao bo : Option Addr) (n c d : Nat) (es : List Ch) (w : World) (hn : es.length = n) (hl : es.length ≤ 1048576) (h : ReadsG layC w ao es) (h' : ReadsG layC w bo es) :
    Calls Tryz.prog 75 #[.slice ao n c, .slice bo n d] w fun e w' => e = .returned (.bool true) ∧ Fr w w' := by
  subst hn
  go_enter Tryz.func75, Tryz.ntmps75
  go_wp2_with fail
  go_loopw [5] (fun i wr => ∃ k : Nat, k ≤ es.length ∧ i = .int .i64 k ∧ Fr w wr) (fun i _ => es.length - (intOf i).toNat)
  case atStart => exact ⟨0, Nat.zero_le _, rfl, Fr.refl w⟩
  case round =>
    obtain ⟨k, hk, rfl, hf⟩ := hrel
    by_cases hlt : k < es.length
    · obtain ⟨b, off, rfl, a0, a1, a2, a3, a4⟩ := ch_at (h.fr hf) k hlt
      obtain ⟨b', off', rfl, x0, x1, x2, x3, x4⟩ := ch_at (h'.fr hf) k hlt
      obtain ⟨e, he⟩ : ∃ e, e = es[k] := ⟨_, rfl⟩
      simp only [← he] at a0 a1 a2 a3 a4 x0 x1 x2 x3 x4
      clear he
      have cE := fun (s : Later wr) => eqChan_same e s.u
      have := Later.some wr
      have p0 : ∀ s : Later wr, s.u.cell? ⟨b, off + k * 5, none⟩ = some (.int .i64 e.o) := fun s => s.fr.cell a0
      have p1 : ∀ s : Later wr, s.u.cell? ⟨b, off + k * 5 + 1, none⟩ = some (.int .i64 e.cap) := fun s => s.fr.cell a1
      have p2 : ∀ s : Later wr, s.u.cell? ⟨b, off + k * 5 + 2, none⟩ = some (.int .i64 e.sent) := fun s => s.fr.cell a2
      have p3 : ∀ s : Later wr, s.u.cell? ⟨b, off + k * 5 + 3, none⟩ = some (.int .i64 e.got) := fun s => s.fr.cell a3
      have p4 : ∀ s : Later wr, s.u.cell? ⟨b, off + k * 5 + 4, none⟩ = some (.bool e.cl) := fun s => s.fr.cell a4
      have q0 : ∀ s : Later wr, s.u.cell? ⟨b', off' + k * 5, none⟩ = some (.int .i64 e.o) := fun s => s.fr.cell x0
      have q1 : ∀ s : Later wr, s.u.cell? ⟨b', off' + k * 5 + 1, none⟩ = some (.int .i64 e.cap) := fun s => s.fr.cell x1
      have q2 : ∀ s : Later wr, s.u.cell? ⟨b', off' + k * 5 + 2, none⟩ = some (.int .i64 e.sent) := fun s => s.fr.cell x2
      have q3 : ∀ s : Later wr, s.u.cell? ⟨b', off' + k * 5 + 3, none⟩ = some (.int .i64 e.got) := fun s => s.fr.cell x3
      have q4 : ∀ s : Later wr, s.u.cell? ⟨b', off' + k * 5 + 4, none⟩ = some (.bool e.cl) := fun s => s.fr.cell x4
      clear a0 a1 a2 a3 a4 x0 x1 x2 x3 x4
      go_wp2_with fail
      refine wp_region_grown (by kernel_rfl) (by kernel_rfl) ?_
      repeat (go_big_quiet_step (with_reducible exact Calls.grown_of (cE _)))
      refine wpQuiet_nil ?_
      rintro _ ⟨s, rfl⟩
      go_wp2_with fail
      go_roundw
      case rel => exact ⟨k + 1, by omega, by go_num, hf.trans s.fr⟩
      case measure => simp [intOf]; omega
    · go_wp2_with fail
      go_ret
      exact ⟨rfl, hf⟩

set_option maxHeartbeats 1000000 in
theorem eqLockS_same {B B' : Nat → Prop} (ao bo : Option Addr) (n c d : Nat) (es fs : List Lv) (ls : List Lk) (w : World) (hn : es.length = n) (hl : es.length ≤ 1048576) (h : ReadsG layL w ao es) (h' : ReadsG layL w bo fs) (hL : LksR B w es ls) (hL' : LksR B' w fs ls) :
    Calls Tryz.prog 74 #[.slice ao n c, .slice bo n d] w fun e w' => e = .returned (.bool true) ∧ Fr w w' := by
  subst hn
  have HL : Hid (es.length = ls.length ∧ fs.length = ls.length) := ⟨hL.len, hL'.len⟩
  go_enter Tryz.func74, Tryz.ntmps74
  go_wp2_with fail
  go_loopw [5] (fun i wr => ∃ k : Nat, k ≤ es.length ∧ i = .int .i64 k ∧ Fr w wr) (fun i _ => es.length - (intOf i).toNat)
  case atStart => exact ⟨0, Nat.zero_le _, rfl, Fr.refl w⟩
  case round =>
    obtain ⟨k, hk, rfl, hf⟩ := hrel
    by_cases hlt : k < es.length
    · have hlt2 : k < fs.length := by have := HL.out; omega
      have hlt3 : k < ls.length := by have := HL.out; omega
      obtain ⟨b, off, rfl, a0, a1, a2⟩ := lv_at (h.fr hf) k hlt
      obtain ⟨b', off', rfl, x0, x1, x2⟩ := lv_at (h'.fr hf) k hlt2
      have cE := fun (s : Later wr) => eqLock_same es[k] fs[k] ls[k] s.u ((hL.at_ k hlt hlt3).fr (hf.trans s.fr)) ((hL'.at_ k hlt2 hlt3).fr (hf.trans s.fr))
      obtain ⟨e, he⟩ : ∃ e, e = es[k] := ⟨_, rfl⟩
      obtain ⟨e2, he2⟩ : ∃ e2, e2 = fs[k] := ⟨_, rfl⟩
      simp only [← he, ← he2] at a0 a1 a2 x0 x1 x2 cE
      clear he he2 hlt2 hlt3
      have := Later.some wr
      have p0 : ∀ s : Later wr, s.u.cell? ⟨b, off + k * 3, none⟩ = some (.int .i64 e.o) := fun s => s.fr.cell a0
      have p1 : ∀ s : Later wr, s.u.cell? ⟨b, off + k * 3 + 1, none⟩ = some (.int .i64 e.wr) := fun s => s.fr.cell a1
      have p2 : ∀ s : Later wr, s.u.cell? ⟨b, off + k * 3 + 2, none⟩ = some (.slice e.ro e.rn e.rc) := fun s => s.fr.cell a2
      have q0 : ∀ s : Later wr, s.u.cell? ⟨b', off' + k * 3, none⟩ = some (.int .i64 e2.o) := fun s => s.fr.cell x0
      have q1 : ∀ s : Later wr, s.u.cell? ⟨b', off' + k * 3 + 1, none⟩ = some (.int .i64 e2.wr) := fun s => s.fr.cell x1
      have q2 : ∀ s : Later wr, s.u.cell? ⟨b', off' + k * 3 + 2, none⟩ = some (.slice e2.ro e2.rn e2.rc) := fun s => s.fr.cell x2
      clear a0 a1 a2 x0 x1 x2
      go_wp2_with fail
      refine wp_region_grown (by kernel_rfl) (by kernel_rfl) ?_
      repeat (go_big_quiet_step (with_reducible exact Calls.grown_of (cE _)))
      refine wpQuiet_nil ?_
      rintro _ ⟨s, rfl⟩
      go_wp2_with fail
      go_roundw
      case rel => exact ⟨k + 1, by omega, by go_num, hf.trans s.fr⟩
      case measure => simp [intOf]; omega
    · go_wp2_with fail
      go_ret
      exact ⟨rfl, hf⟩

set_option maxHeartbeats 1000000 in
theorem eqScene_same {B B' : Nat → Prop} (s t : Sv) (m : Scn) (w : World) (h : ScR B w s m) (h' : ScR B' w t m) :
    Calls Tryz.prog 29 #[.agg #[.int .i64 s.g, .slice s.lo s.ll s.lc, .slice s.co s.cl s.cc, .slice s.no s.nl s.nc, .slice s.oo s.ol s.oc], .agg #[.int .i64 t.g, .slice t.lo t.ll t.lc, .slice t.co t.cl t.cc, .slice t.no t.nl t.nc, .slice t.oo t.ol t.oc]] w fun e w' => e = .returned (.bool true) ∧ Fr w w' := by
  have f1 := Fr.alloc w (.cells #[.int .i64 s.g, .slice s.lo s.ll s.lc, .slice s.co s.cl s.cc, .slice s.no s.nl s.nc, .slice s.oo s.ol s.oc] 29)
  have f2 := Fr.alloc (w.alloc (.cells #[.int .i64 s.g, .slice s.lo s.ll s.lc, .slice s.co s.cl s.cc, .slice s.no s.nl s.nc, .slice s.oo s.ol s.oc] 29)) (.cells #[.int .i64 t.g, .slice t.lo t.ll t.lc, .slice t.co t.cl t.cc, .slice t.no t.nl t.nc, .slice t.oo t.ol t.oc] 29)
  have k1 := (ScK.new w s).fr f2
  have k2 := ScK.new (w.alloc (.cells #[.int .i64 s.g, .slice s.lo s.ll s.lc, .slice s.co s.cl s.cc, .slice s.no s.nl s.nc, .slice s.oo s.ol s.oc] 29)) t
  simp only [World.size_alloc] at k2
  have F := f1.trans f2
  obtain ⟨es, r1, n1, L1⟩ := h.lks
  obtain ⟨fs, r2, n2, L2⟩ := h'.lks
  have eg : s.g = t.g := h.g.trans h'.g.symm
  have el : s.ll = t.ll := by rw [n1, n2, L1.len, L2.len]
  have ec : s.cl = t.cl := h.cl.trans h'.cl.symm
  have en : s.nl = t.nl := h.nl.trans h'.nl.symm
  have cL := fun u (f : Fr w u) => eqLockS_same s.lo t.lo s.ll s.lc t.lc es fs m.ls u n1.symm (by rw [L1.len]; exact h.sl) (r1.fr f) (r2.fr f) (L1.fr f) (L2.fr f)
  have cC := fun u (f : Fr w u) => eqChanS_same s.co t.co s.cl s.cc t.cc m.cs u h.cl.symm h.sc (h.chs.fr f) (h'.chs.fr f)
  have cN := fun u (f : Fr w u) => eqCountS_same s.no t.no s.nl s.nc t.nc m.gs u h.nl.symm h.sn (h.cts.fr f) (h'.cts.fr f)
  have cO := fun u (f : Fr w u) => eqI_any s.oo t.oo s.ol t.ol s.oc t.oc m.os m.os u h.ol.symm h'.ol.symm (h.ons.fr f) (h'.ons.fr f)
  simp only [decide_true] at cO
  clear h h' r1 n1 L1 r2 n2 L2 f1 f2
  obtain ⟨sg, slo, sll, slc, sco, scl, scc, sno, snl, snc, soo, sol, soc⟩ := s
  obtain ⟨tg, tlo, tll, tlc, tco, tcl, tcc, tno, tnl, tnc, too, tol, toc⟩ := t
  simp only at k1 k2 F eg el ec en cL cC cN cO ⊢
  subst eg el ec en
  go_enter Tryz.func29, Tryz.ntmps29
  go_wp2_with fail
  obtain ⟨W, hW⟩ : ∃ W, W = (w.alloc (.cells #[.int .i64 sg, .slice slo sll slc, .slice sco scl scc, .slice sno snl snc, .slice soo sol soc] 29)).alloc (.cells #[.int .i64 sg, .slice tlo sll tlc, .slice tco scl tcc, .slice tno snl tnc, .slice too tol toc] 29) := ⟨_, rfl⟩
  rw [← hW] at k1 k2 F ⊢
  clear hW
  have HQ : Hid (∀ u, Fr W u → ScB u w.heap.size ⟨sg, slo, sll, slc, sco, scl, scc, sno, snl, snc, soo, sol, soc⟩ ∧ ScB u (w.heap.size + 1) ⟨sg, tlo, sll, tlc, tco, scl, tcc, tno, snl, tnc, too, tol, toc⟩) := fun u f => ⟨(k1.fr f).at, (k2.fr f).at⟩
  clear k1 k2
  refine (cL _ F).mono ?_
  rintro e u1 ⟨rfl, f1⟩
  obtain ⟨⟨s0, s1, s2, s3, s4⟩, ⟨t0, t1, t2, t3, t4⟩⟩ := HQ.out _ f1
  simp only at s0 s1 s2 s3 s4 t0 t1 t2 t3 t4
  go_wp2_with fail
  refine (cC _ (F.trans f1)).mono ?_
  rintro e u2 ⟨rfl, f2⟩
  clear s0 s1 s2 s3 s4 t0 t1 t2 t3 t4
  have f2 := f1.trans f2
  obtain ⟨⟨s0, s1, s2, s3, s4⟩, ⟨t0, t1, t2, t3, t4⟩⟩ := HQ.out _ f2
  simp only at s0 s1 s2 s3 s4 t0 t1 t2 t3 t4
  go_wp2_with fail
  refine (cN _ (F.trans f2)).mono ?_
  rintro e u3 ⟨rfl, f3⟩
  clear s0 s1 s2 s3 s4 t0 t1 t2 t3 t4
  have f3 := f2.trans f3
  obtain ⟨⟨s0, s1, s2, s3, s4⟩, ⟨t0, t1, t2, t3, t4⟩⟩ := HQ.out _ f3
  simp only at s0 s1 s2 s3 s4 t0 t1 t2 t3 t4
  go_wp2_with fail
  refine (cO _ (F.trans f3)).mono ?_
  rintro e u4 ⟨rfl, nq, rfl⟩
  clear s0 s1 s2 s3 s4 t0 t1 t2 t3 t4
  go_wp2_with fail
  go_ret
  exact ⟨rfl, (F.trans f3).trans (Fr.drewN _ nq)⟩
end Go.Proofs.YtikjodbboljhjaaGreatDoor
/-
  The walks of the laws' toEventS, szEventS, eqEventS (of two like lists).
-/
namespace Go.Proofs.YtikjodbboljhjaaGreatDoor
open Go.RowKit

theorem Tryz.info31 : (Tryz.prog.info? 31).map (fun i => (i.zero, i.size, i.bytes)) = some (some (.agg #[.int .i64 0, .int .i64 0, .int .i64 0, .int .i64 0, .int .i64 0, .int .i64 0, .int .i64 0, .int .i64 0]), 8, 64) := by kernel_rfl

theorem sz_any (ao : Option Addr) (n cap : Nat) (w : World) (hn : n ≤ 9223372036854775807) :
    Calls Tryz.prog 32 #[.slice ao n cap, .int .i64 1048576] w fun e w' => e = .returned (.int .i64 (if n ≤ 1048576 then 1048576 - (n : Int) else -1)) ∧ w' = w := by
  by_cases h : n ≤ 1048576
  · rw [if_pos h]
    go_enter Tryz.func32, Tryz.ntmps32
    go_wp2
    go_ret
    exact ⟨rfl, rfl⟩
  · rw [if_neg h]
    go_enter Tryz.func32, Tryz.ntmps32
    go_wp2
    go_ret
    exact ⟨rfl, rfl⟩

theorem set8 (A B : List Value) (m0 m1 m2 m3 m4 m5 m6 m7 a0 a1 a2 a3 a4 a5 a6 a7 : Value) (n : Nat) (hn : A.length = n) :
    ((((((((A ++ m0 :: m1 :: m2 :: m3 :: m4 :: m5 :: m6 :: m7 :: B).set n a0).set (n + 1) a1).set (n + 2) a2).set (n + 3) a3).set (n + 4) a4).set (n + 5) a5).set (n + 6) a6).set (n + 7) a7
      = A ++ a0 :: a1 :: a2 :: a3 :: a4 :: a5 :: a6 :: a7 :: B := by
  subst hn
  simp
theorem drop8 (L : List Value) (n : Nat) (h : n + 8 ≤ L.length) : ∃ m0 m1 m2 m3 m4 m5 m6 m7, L.drop n = m0 :: m1 :: m2 :: m3 :: m4 :: m5 :: m6 :: m7 :: L.drop (n + 8) := by
  refine ⟨L[n], L[n + 1], L[n + 2], L[n + 3], L[n + 4], L[n + 5], L[n + 6], L[n + 7], ?_⟩
  rw [List.drop_eq_getElem_cons (by omega : n < L.length), List.drop_eq_getElem_cons (by omega : n + 1 < L.length), List.drop_eq_getElem_cons (by omega : n + 1 + 1 < L.length), List.drop_eq_getElem_cons (by omega : n + 1 + 1 + 1 < L.length),
    List.drop_eq_getElem_cons (by omega : n + 1 + 1 + 1 + 1 < L.length), List.drop_eq_getElem_cons (by omega : n + 1 + 1 + 1 + 1 + 1 < L.length), List.drop_eq_getElem_cons (by omega : n + 1 + 1 + 1 + 1 + 1 + 1 < L.length), List.drop_eq_getElem_cons (by omega : n + 1 + 1 + 1 + 1 + 1 + 1 + 1 < L.length)]
theorem grown_tr {a b c : World} {row : Option Nat} (h : a.grownBy b row) (k : b.grownBy c row) : a.grownBy c row :=
  ⟨k.os.trans h.os, k.tape.trans h.tape, k.output.trans h.output, Nat.le_trans h.size k.size, fun i hi hne => (k.block i (Nat.lt_of_lt_of_le hi h.size) hne).trans (h.block i hi hne)⟩
theorem own8 {w : World} {base g n cap : Nat} {e : TypeId} {xs : List Value} (h : w.ownsRow base e 8 (.slice (some ⟨g, 0, none⟩) n cap) n xs) (j : Nat) (a0 a1 a2 a3 a4 a5 a6 a7 : Value) :
    ((((((((w.setCell ⟨g, j, none⟩ a0).setCell ⟨g, j + 1, none⟩ a1).setCell ⟨g, j + 2, none⟩ a2).setCell ⟨g, j + 3, none⟩ a3).setCell ⟨g, j + 4, none⟩ a4).setCell ⟨g, j + 5, none⟩ a5).setCell ⟨g, j + 6, none⟩ a6).setCell ⟨g, j + 7, none⟩ a7).ownsRow base e 8 (.slice (some ⟨g, 0, none⟩) n cap) n
      ((((((((xs.set j a0).set (j + 1) a1).set (j + 2) a2).set (j + 3) a3).set (j + 4) a4).set (j + 5) a5).set (j + 6) a6).set (j + 7) a7) ∧
    w.grownBy ((((((((w.setCell ⟨g, j, none⟩ a0).setCell ⟨g, j + 1, none⟩ a1).setCell ⟨g, j + 2, none⟩ a2).setCell ⟨g, j + 3, none⟩ a3).setCell ⟨g, j + 4, none⟩ a4).setCell ⟨g, j + 5, none⟩ a5).setCell ⟨g, j + 6, none⟩ a6).setCell ⟨g, j + 7, none⟩ a7) (some g) := by
  have h0 := h.stored j a0
  have h1 := h0.1.stored (j + 1) a1
  have h2 := h1.1.stored (j + 2) a2
  have h3 := h2.1.stored (j + 3) a3
  have h4 := h3.1.stored (j + 4) a4
  have h5 := h4.1.stored (j + 5) a5
  have h6 := h5.1.stored (j + 6) a6
  have h7 := h6.1.stored (j + 7) a7
  exact ⟨h7.1, grown_tr (grown_tr (grown_tr (grown_tr (grown_tr (grown_tr (grown_tr h0.2 h1.2) h2.2) h3.2) h4.2) h5.2) h6.2) h7.2⟩
/-- One event more is laid. -/
theorem laid_step (es : List Ev) (M : List Value) (k : Nat) (hk : k < es.length) (hM : M.length = es.length * 8) (e : Ev) :
    (((((((((es.take k).flatMap evCells ++ M.drop (k * 8)).set (k * 8) (.int .i64 e.k)).set (k * 8 + 1) (.int .i64 e.g)).set (k * 8 + 2) (.int .i64 e.o)).set (k * 8 + 3) (.int .i64 e.w)).set (k * 8 + 4) (.int .i64 e.l)).set (k * 8 + 5) (.int .i64 e.s)).set (k * 8 + 6) (.int .i64 e.f)).set (k * 8 + 7) (.int .i64 e.t)
      = (es.take k ++ [e]).flatMap evCells ++ M.drop ((k + 1) * 8) := by
  obtain ⟨m0, m1, m2, m3, m4, m5, m6, m7, hd⟩ := drop8 M (k * 8) (by omega)
  have hl : ((es.take k).flatMap evCells).length = k * 8 := by rw [cells_len, List.length_take]; congr 1; omega
  rw [hd, set8 _ _ _ _ _ _ _ _ _ _ _ _ _ _ _ _ _ _ _ hl, show (k + 1) * 8 = k * 8 + 8 by omega, List.flatMap_append]
  simp [evCells]

set_option maxHeartbeats 1000000 in
theorem toEs_any (ao : Option Addr) (n cap : Nat) (es : List Ev) (w : World) (hn : es.length = n) (h : ReadsE w ao es) :
    Calls Tryz.prog 34 #[.slice ao n cap] w fun e w' => ∃ v, e = .returned v ∧ OwnE w' w.heap.size v es ∧ Fr w w' := by
  subst hn
  have hl := h.len
  obtain ⟨i0, hi, hz0, hz1, hz2⟩ := info_parts Tryz.info31
  go_enter Tryz.func34, Tryz.ntmps34
  go_wp2_with (at_make; refine wpList_make_full _ rfl _ _ 39 rfl w.heap.size 31 i0 (.agg #[.int .i64 0, .int .i64 0, .int .i64 0, .int .i64 0, .int .i64 0, .int .i64 0, .int .i64 0, .int .i64 0]) 8 Tryz.underlying39 hi hz0 hz1 .i64 .i64 _ _ es.length rfl rfl rfl rfl (by rw [hz2]; omega) (by unfold maxLen; omega) (Nat.le_refl _) ?_; intro w1 hown hgrow)
  obtain ⟨M, hM⟩ : ∃ M, M = (madeCells (Value.agg #[.int .i64 0, .int .i64 0, .int .i64 0, .int .i64 0, .int .i64 0, .int .i64 0, .int .i64 0, .int .i64 0]).cells (es.length * 8)).toList := ⟨_, rfl⟩
  rw [← hM] at hown
  clear hM
  have hMl := hown.1
  clear hi hz0 hz1 hz2
  go_loopw [4] (fun i wr => ∃ k : Nat, k ≤ es.length ∧ i = .int .i64 k ∧ wr.ownsRow w.heap.size 31 8 (.slice (some ⟨w.heap.size, 0, none⟩) es.length es.length) es.length ((es.take k).flatMap evCells ++ M.drop (k * 8)) ∧ Fr w wr) (fun i _ => es.length - (intOf i).toNat)
  case atStart => exact ⟨0, Nat.zero_le _, rfl, by simpa using hown, hgrow⟩
  case round =>
    obtain ⟨k, hk, rfl, ho, hf⟩ := hrel
    clear hown hgrow
    by_cases hlt : k < es.length
    · obtain ⟨b, off, rfl, hc⟩ := (h.fr hf).at_ k hlt
      obtain ⟨c0, c1, c2, c3, c4, c5, c6, c7⟩ := hc k hlt
      have HE : Hid (es.take k ++ [es[k]] = es.take (k + 1)) := (List.take_succ_eq_append_getElem hlt).symm
      obtain ⟨e, he⟩ : ∃ e, e = es[k] := ⟨_, rfl⟩
      rw [← he] at c0 c1 c2 c3 c4 c5 c6 c7 HE
      clear hc he
      have cT := fun w => toEvent_any e w
      go_wp2_with fail
      refine (cT _).mono ?_
      rintro e w5 ⟨rfl, f5⟩
      have ho := ho.kept f5 (by simp [Value.ownBlock])
      have hll : ((es.take k).flatMap evCells ++ M.drop (k * 8)).length = es.length * 8 := ho.1
      have hat : ∀ i, i < 8 → ∃ u, w5.cell? ⟨w.heap.size, k * 8 + i, none⟩ = some u := fun i hi => by
        rw [ho.cellAt (k * 8 + i) (by omega)]
        exact ⟨_, List.getElem?_eq_getElem (by omega)⟩
      obtain ⟨q0, d0⟩ := hat 0 (by omega)
      obtain ⟨q1, d1⟩ := hat 1 (by omega)
      obtain ⟨q2, d2⟩ := hat 2 (by omega)
      obtain ⟨q3, d3⟩ := hat 3 (by omega)
      obtain ⟨q4, d4⟩ := hat 4 (by omega)
      obtain ⟨q5, d5⟩ := hat 5 (by omega)
      obtain ⟨q6, d6⟩ := hat 6 (by omega)
      obtain ⟨q7, d7⟩ := hat 7 (by omega)
      rw [Nat.add_zero] at d0
      have z0 := ho.frozenAt (k * 8)
      have z1 := ho.frozenAt (k * 8 + 1)
      have z2 := ho.frozenAt (k * 8 + 2)
      have z3 := ho.frozenAt (k * 8 + 3)
      have z4 := ho.frozenAt (k * 8 + 4)
      have z5 := ho.frozenAt (k * 8 + 5)
      have z6 := ho.frozenAt (k * 8 + 6)
      have z7 := ho.frozenAt (k * 8 + 7)
      have hst := own8 ho (k * 8) (.int .i64 e.k) (.int .i64 e.g) (.int .i64 e.o) (.int .i64 e.w) (.int .i64 e.l) (.int .i64 e.s) (.int .i64 e.f) (.int .i64 e.t)
      rw [laid_step es M k hlt hMl e, HE.out] at hst
      have hsz := hf.size
      clear hat hll ho
      go_wp2_with fail
      go_roundw
      case rel => exact ⟨k + 1, by omega, by go_num, hst.1, (hf.trans f5).then hst.2 (fun j hj => by simp only [Option.some.injEq] at hj; omega)⟩
      case measure => simp [intOf]; omega
    · have ek : k = es.length := by omega
      have hd : M.drop (k * 8) = [] := List.drop_eq_nil_of_le (by rw [hMl, ek]; omega)
      rw [hd, List.append_nil, List.take_of_length_le (by omega)] at ho
      clear ek hd
      go_wp2_with fail
      go_ret
      exact ⟨_, rfl, ⟨w.heap.size, es.length, rfl, ho, hl⟩, hf⟩
end Go.Proofs.YtikjodbboljhjaaGreatDoor
/-
  The walks of the laws' eqEvent and eqEventS of like events.
-/
namespace Go.Proofs.YtikjodbboljhjaaGreatDoor
open Go.RowKit

set_option maxHeartbeats 1000000 in
theorem eqEv_same (e : Ev) (w : World) :
    Calls Tryz.prog 86 #[.agg #[.int .i64 e.k, .int .i64 e.g, .int .i64 e.o, .int .i64 e.w, .int .i64 e.l, .int .i64 e.s, .int .i64 e.f, .int .i64 e.t], .agg #[.int .i64 e.k, .int .i64 e.g, .int .i64 e.o, .int .i64 e.w, .int .i64 e.l, .int .i64 e.s, .int .i64 e.f, .int .i64 e.t]] w fun x w' => x = .returned (.bool true) ∧ Fr w w' := by
  obtain ⟨k, g, o, wi, l, sz, f, t⟩ := e
  simp only
  go_enter Tryz.func86, Tryz.ntmps86
  go_wp2_with fail
  go_ret
  exact ⟨rfl, (Fr.alloc _ _).trans (Fr.alloc _ _)⟩

set_option maxHeartbeats 2000000 in
theorem eqEs_same (ao bo : Option Addr) (n c d : Nat) (es : List Ev) (w : World) (hn : es.length = n) (h : ReadsE w ao es) (h' : ReadsE w bo es) :
    Calls Tryz.prog 35 #[.slice ao n c, .slice bo n d] w fun e w' => e = .returned (.bool true) ∧ Fr w w' := by
  subst hn
  have hl := h.len
  go_enter Tryz.func35, Tryz.ntmps35
  go_wp2_with fail
  go_loopw [5] (fun i wr => ∃ k : Nat, k ≤ es.length ∧ i = .int .i64 k ∧ Fr w wr) (fun i _ => es.length - (intOf i).toNat)
  case atStart => exact ⟨0, Nat.zero_le _, rfl, Fr.refl _⟩
  case round =>
    obtain ⟨k, hk, rfl, hf⟩ := hrel
    by_cases hlt : k < es.length
    · obtain ⟨b, off, rfl, hc⟩ := (h.fr hf).at_ k hlt
      obtain ⟨b', off', rfl, hc'⟩ := (h'.fr hf).at_ k hlt
      have hk1 := hc k hlt
      have hk2 := hc' k hlt
      obtain ⟨e, he⟩ : ∃ e, e = es[k] := ⟨_, rfl⟩
      rw [← he] at hk1 hk2
      clear hc hc' he
      have cE := fun w => eqEv_same e w
      have := Later.some wr
      have p0 := fun s : Later wr => s.fr.cell hk1.c0
      have p1 := fun s : Later wr => s.fr.cell hk1.c1
      have p2 := fun s : Later wr => s.fr.cell hk1.c2
      have p3 := fun s : Later wr => s.fr.cell hk1.c3
      have p4 := fun s : Later wr => s.fr.cell hk1.c4
      have p5 := fun s : Later wr => s.fr.cell hk1.c5
      have p6 := fun s : Later wr => s.fr.cell hk1.c6
      have p7 := fun s : Later wr => s.fr.cell hk1.c7
      have r0 := fun s : Later wr => s.fr.cell hk2.c0
      have r1 := fun s : Later wr => s.fr.cell hk2.c1
      have r2 := fun s : Later wr => s.fr.cell hk2.c2
      have r3 := fun s : Later wr => s.fr.cell hk2.c3
      have r4 := fun s : Later wr => s.fr.cell hk2.c4
      have r5 := fun s : Later wr => s.fr.cell hk2.c5
      have r6 := fun s : Later wr => s.fr.cell hk2.c6
      have r7 := fun s : Later wr => s.fr.cell hk2.c7
      clear hk1 hk2
      go_wp2_with fail
      refine wp_region_grown (by kernel_rfl) (by kernel_rfl) ?_
      repeat (go_big_quiet_step (with_reducible exact Calls.grown_of (cE _)))
      refine wpQuiet_nil ?_
      rintro _ ⟨s, rfl⟩
      go_wp2_with fail
      go_roundw
      case rel => exact ⟨k + 1, by omega, by go_num, hf.trans s.fr⟩
      case measure => simp [intOf]; omega
    · go_wp2_with fail
      go_ret
      exact ⟨rfl, hf⟩
end Go.Proofs.YtikjodbboljhjaaGreatDoor
/-
  The walks of the laws' markEventS (it writes q, q + 1, .. into a list of events) and heldEventS (are these still there?).
-/
namespace Go.Proofs.YtikjodbboljhjaaGreatDoor
open Go.RowKit

/-- An event of eight numbers in a row. -/
def upE (c : Int) : Ev := ⟨c, c + 1, c + 1 + 1, c + 1 + 1 + 1, c + 1 + 1 + 1 + 1, c + 1 + 1 + 1 + 1 + 1, c + 1 + 1 + 1 + 1 + 1 + 1, c + 1 + 1 + 1 + 1 + 1 + 1 + 1⟩
def upsE (q : Int) (n : Nat) : List Ev := (List.range n).map fun j : Nat => upE (q + 8 * (j : Int))
theorem upsE_length (q : Int) (n : Nat) : (upsE q n).length = n := by simp [upsE]
theorem upsE_succ (q : Int) (n : Nat) : upsE q (n + 1) = upsE q n ++ [upE (q + 8 * (n : Int))] := by simp [upsE, List.range_succ]
theorem upsE_at (q : Int) (n j : Nat) (h : j < (upsE q n).length) : (upsE q n)[j] = upE (q + 8 * (j : Int)) := by simp [upsE]

/-- One event more is marked. -/
theorem marked_step (D : List Ev) (M : List Value) (k n : Nat) (hD : D.length = k) (hk : k < n) (hM : M.length = n * 8) (e : Ev) :
    ((((((((D.flatMap evCells ++ M.drop (k * 8)).set (k * 8) (.int .i64 e.k)).set (k * 8 + 1) (.int .i64 e.g)).set (k * 8 + 2) (.int .i64 e.o)).set (k * 8 + 3) (.int .i64 e.w)).set (k * 8 + 4) (.int .i64 e.l)).set (k * 8 + 5) (.int .i64 e.s)).set (k * 8 + 6) (.int .i64 e.f)).set (k * 8 + 7) (.int .i64 e.t)
      = (D ++ [e]).flatMap evCells ++ M.drop ((k + 1) * 8) := by
  obtain ⟨m0, m1, m2, m3, m4, m5, m6, m7, hd⟩ := drop8 M (k * 8) (by omega)
  have hl : (D.flatMap evCells).length = k * 8 := by rw [cells_len, hD]
  rw [hd, set8 _ _ _ _ _ _ _ _ _ _ _ _ _ _ _ _ _ _ _ hl, show (k + 1) * 8 = k * 8 + 8 by omega, List.flatMap_append]
  simp [evCells]

set_option maxHeartbeats 2000000 in
theorem markEs_any (g n cap base : Nat) (q : Int) (es : List Ev) (w : World) (hn : es.length = n) (q0 : 0 ≤ q) (q1 : q ≤ 4294967296) (h : w.ownsRow base 31 8 (.slice (some ⟨g, 0, none⟩) n cap) n (es.flatMap evCells)) (hl : n ≤ 16777216) :
    Calls Tryz.prog 36 #[.slice (some ⟨g, 0, none⟩) n cap, .int .i64 q] w fun e w' => e = .returned (.int .i64 (q + 8 * (n : Int))) ∧ w'.ownsRow base 31 8 (.slice (some ⟨g, 0, none⟩) n cap) n ((upsE q n).flatMap evCells) ∧ w.grownBy w' (some g) := by
  obtain ⟨M, hM⟩ : ∃ M, M = es.flatMap evCells := ⟨_, rfl⟩
  have hMl : M.length = n * 8 := by rw [hM, cells_len, hn]
  rw [← hM] at h
  clear hM hn
  go_enter Tryz.func36, Tryz.ntmps36
  go_wp2_with fail
  go_loopw [1, 5] (fun c i wr => ∃ k : Nat, k ≤ n ∧ i = .int .i64 k ∧ c = .int .i64 (q + 8 * (k : Int)) ∧ wr.ownsRow base 31 8 (.slice (some ⟨g, 0, none⟩) n cap) n ((upsE q k).flatMap evCells ++ M.drop (k * 8)) ∧ w.grownBy wr (some g)) (fun _ i _ => n - (intOf i).toNat)
  case atStart => exact ⟨0, Nat.zero_le _, rfl, by simp, by simpa [upsE] using h, ⟨rfl, rfl, rfl, Nat.le_refl _, fun _ _ _ => rfl⟩⟩
  case round =>
    obtain ⟨k, hk, rfl, rfl, ho, hf⟩ := hrel
    by_cases hlt : k < n
    · have hll : ((upsE q k).flatMap evCells ++ M.drop (k * 8)).length = n * 8 := ho.1
      have hat : ∀ i, i < 8 → ∃ u, wr.cell? ⟨g, k * 8 + i, none⟩ = some u := fun i hi => by
        rw [ho.cellAt (k * 8 + i) (by omega)]
        exact ⟨_, List.getElem?_eq_getElem (by omega)⟩
      obtain ⟨p0, d0⟩ := hat 0 (by omega)
      obtain ⟨p1, d1⟩ := hat 1 (by omega)
      obtain ⟨p2, d2⟩ := hat 2 (by omega)
      obtain ⟨p3, d3⟩ := hat 3 (by omega)
      obtain ⟨p4, d4⟩ := hat 4 (by omega)
      obtain ⟨p5, d5⟩ := hat 5 (by omega)
      obtain ⟨p6, d6⟩ := hat 6 (by omega)
      obtain ⟨p7, d7⟩ := hat 7 (by omega)
      rw [Nat.add_zero] at d0
      have z0 := ho.frozenAt (k * 8)
      have z1 := ho.frozenAt (k * 8 + 1)
      have z2 := ho.frozenAt (k * 8 + 2)
      have z3 := ho.frozenAt (k * 8 + 3)
      have z4 := ho.frozenAt (k * 8 + 4)
      have z5 := ho.frozenAt (k * 8 + 5)
      have z6 := ho.frozenAt (k * 8 + 6)
      have z7 := ho.frozenAt (k * 8 + 7)
      have hst := own8 ho (k * 8) (.int .i64 (upE (q + 8 * (k : Int))).k) (.int .i64 (upE (q + 8 * (k : Int))).g) (.int .i64 (upE (q + 8 * (k : Int))).o) (.int .i64 (upE (q + 8 * (k : Int))).w) (.int .i64 (upE (q + 8 * (k : Int))).l) (.int .i64 (upE (q + 8 * (k : Int))).s) (.int .i64 (upE (q + 8 * (k : Int))).f) (.int .i64 (upE (q + 8 * (k : Int))).t)
      rw [marked_step (upsE q k) M k n (upsE_length q k) hlt hMl, ← upsE_succ] at hst
      simp only [upE] at hst
      clear hat hll ho h
      go_wp2_with fail
      refine ⟨⟨k + 1, by omega, by go_num, ?_, hst.1, grown_tr hf hst.2⟩, ?_⟩
      · congr 1; push_cast; omega
      · simp only [intOf]; omega
    · have ek : k = n := by omega
      have hd : M.drop (k * 8) = [] := List.drop_eq_nil_of_le (by rw [hMl, ek]; omega)
      rw [hd, List.append_nil, ek] at ho
      have HK : Hid (k = n) := ek
      clear ek hd
      go_wp2_with fail
      go_ret
      refine ⟨?_, ho, hf⟩
      have := HK.out
      exact ret_int (by omega)

end Go.Proofs.YtikjodbboljhjaaGreatDoor
