/-
  The walk of the law on RacesIn.
-/
import Derived.Test.YtcofhmikdkkigaaGreatDoorPsC
import Derived.Test.YtcofhmikdkkigaaGreatDoorPrBG
import Derived.Test.YtcofhmikdkkigaaGreatDoorPsB
import Derived.Test.YtcofhmikdkkigaaGreatDoorPrAU
import Derived.Test.YtcofhmikdkkigaaGreatDoorPrBK
namespace Go.Proofs.YtcofhmikdkkigaaGreatDoor
open Go.RowKit

theorem pr_ne {g b n c : Nat} (h : g ≠ b) : (Value.slice (some ⟨g, 0, none⟩) n c).ownBlock ≠ some b := by
  simp only [Value.ownBlock, ne_eq, Option.some.injEq]
  exact h
theorem ownG_readsU {w : World} {base g n cap : Nat} {xs : List (Int × Int)} (h : OwnG layPr w base (.slice (some ⟨g, 0, none⟩) n cap) xs) : ReadsG layPr w (some ⟨g, 0, none⟩) xs := by
  obtain ⟨g', cap', e, ho, hl⟩ := h
  simp only [Value.slice.injEq, Option.some.injEq, Addr.mk.injEq, and_true] at e
  obtain ⟨rfl, rfl, rfl⟩ := e
  exact own_readsG ho hl

set_option maxRecDepth 20000 in
set_option maxHeartbeats 4000000 in
theorem racesLaw (a0 : Option Addr) (cap0 : Nat) (es : List Ev) (w : World) (hm : es.length ≤ maxLen) (hr : es.length ≤ 16777216 → ReadsE w a0 es) (hs : Shapes w) :
    Calls Tryz.prog 8 #[.slice a0 es.length cap0] w fun e w' => e = .returned (.bool true) ∧ Below w.heap.size w w' := by
  have hcap : es.length ≤ 9223372036854775807 := by unfold maxLen at hm; omega
  have cZ := fun w => sz_any a0 es.length cap0 w hcap
  by_cases hbig : es.length ≤ 1048576
  · rw [if_pos hbig] at cZ
    have hr := hr (by omega)
    have cT := fun w h => toEs_any a0 es.length cap0 es w rfl h
    have cS := fun g c w hc h => specRaces_any g 0 es.length c es w rfl hc h
    have cI := fun g c w hc h hs hab => implRaces_any g 0 es.length c es w rfl hc h hs hab
    have cE := fun ao bo c d w h h' => eqEs_same ao bo es.length c d es w rfl h h'
    have cM := fun g c base w h => markEs_any g es.length c base 1 es w rfl (by omega) (by omega) h (by omega)
    have hK : ((1 + 8 * (es.length : Int)) < 0) = False := by simp; omega
    obtain ⟨kk, hkk⟩ : ∃ kk, kk = 1 + 8 * (es.length : Int) := ⟨_, rfl⟩
    rw [← hkk] at hK
    simp only [← hkk] at cM
    clear hkk
    have hJl := pairsL_len (lpL es) [] false (lpL es).length (lpL_300 es)
    have h300 := lpL_300 es
    obtain ⟨J, hJ⟩ : ∃ J, J = pairsL (lpL es) [] false (lpL es).length := ⟨_, rfl⟩
    have hJ9 : J.length ≤ 90000 := by rw [hJ]; omega
    clear hJl h300
    simp only [← hJ] at cS cI
    clear hJ hm hcap
    go_enter Tryz.func8, Tryz.ntmps8
    go_wp2_with fail
    refine (cZ _).mono ?_
    rintro e u0 ⟨rfl, rfl⟩
    clear cZ
    go_wp2_with fail
    refine (cT _ hr).mono ?_
    rintro e u1 ⟨v1, rfl, o1, f1⟩
    obtain ⟨g1, c1, rfl, o1, hl1⟩ := o1
    go_wp2_with fail
    refine (cS _ _ _ (own_capR o1) (own_readsE o1 hl1)).mono ?_
    rintro e u2 ⟨v2, rfl, ow, f2⟩
    obtain ⟨gw, cw, rfl⟩ := ownG_some ow
    have F2 := f1.trans f2
    have sw := OwnG.lt ow gw rfl
    have sw2 := ownG_blk ow gw rfl
    clear o1 hl1 cS
    go_wp2_with fail
    refine (cT _ (hr.fr F2)).mono ?_
    rintro e u3 ⟨v3, rfl, ox, f3⟩
    obtain ⟨gx, cx, rfl, ox, hlx⟩ := ox
    have tx := ox.lt gx rfl
    have F3 := F2.trans f3
    go_wp2_with fail
    refine (cI _ _ _ (own_capR ox) (own_readsE ox hlx) (hs.fr F3) tx.2).mono ?_
    rintro e u4 ⟨v4, rfl, og, f4⟩
    obtain ⟨gg, cg, rfl⟩ := ownG_some og
    have tg := OwnG.lt og gg rfl
    have tg2 := ownG_blk og gg rfl
    have F4 := F3.trans f4
    have ow := ow.fr (f3.trans f4)
    have ox := ox.kept f4 (by simp [Value.ownBlock])
    have z3 := f3.size
    have z4 := f4.size
    have z1 := f1.size
    have z2 := f2.size
    clear f1 f2 f3 f4 F2 F3
    go_wp2_with fail
    refine (eqPrs_same _ _ _ _ _ J _ rfl (ownG_readsG og) (ownG_readsG ow)).mono ?_
    rintro e u5 ⟨rfl, f5⟩
    have F5 := F4.trans f5
    have ow := ow.fr f5
    have ox := ox.kept f5 (by simp [Value.ownBlock])
    have og := og.fr f5
    go_wp2_with fail
    refine (cT _ (hr.fr F5)).mono ?_
    rintro e u7 ⟨v7, rfl, o7, f7⟩
    obtain ⟨g7, c7, rfl, o7, hl7⟩ := o7
    have ox := ox.kept f7 (by simp [Value.ownBlock])
    go_wp2_with fail
    refine (cE _ _ _ _ _ (own_readsE ox hlx) (own_readsE o7 hl7)).mono ?_
    rintro e u8 ⟨rfl, f8⟩
    have F8 := (F5.trans f7).trans f8
    have ow := ow.fr (f7.trans f8)
    have og := og.fr (f7.trans f8)
    have ox := ox.kept f8 (by simp [Value.ownBlock])
    clear o7 hl7 F4 F5 f5 f7 f8
    go_wp2_with fail
    refine (cM _ _ _ _ ox).mono ?_
    rintro e u9 ⟨rfl, -, k9⟩
    have F9 := F8.then k9 (fun j hj => by cases hj; omega)
    have ow := ow.keep k9 (pr_ne (by omega))
    have og := og.keep k9 (pr_ne (by omega))
    clear k9 ox F8
    go_wp2_with fail
    refine (eqPrs_same _ _ _ _ _ J _ rfl (ownG_readsG og) (ownG_readsG ow)).mono ?_
    rintro e u10 ⟨rfl, f10⟩
    have F10 := F9.trans f10
    have ow := ow.fr f10
    have og := og.fr f10
    clear F9 f10
    go_wp2_with fail
    refine (markPr_any _ _ _ _ 1 J _ rfl (by omega) (by omega) og).mono ?_
    rintro e u11 ⟨rfl, om, k11⟩
    have F11 := F10.then k11 (one_blk (by omega))
    have ow := ow.keep k11 (pr_ne (by omega))
    clear k11 og F10
    go_wp2_with fail
    refine (heldPr_any _ _ _ 1 _ (by omega) (by omega) (ownG_readsU om)).mono ?_
    rintro e u12 ⟨rfl, rfl⟩
    go_wp2_with fail
    refine (cT _ (hr.fr F11)).mono ?_
    rintro e u13 ⟨v13, rfl, o13, f13⟩
    obtain ⟨g13, c13, rfl, o13, hl13⟩ := o13
    have t13 := o13.lt g13 rfl
    have F13 := F11.trans f13
    go_wp2_with fail
    refine (cI _ _ _ (own_capR o13) (own_readsE o13 hl13) (hs.fr F13) t13.2).mono ?_
    rintro e u14 ⟨v14, rfl, oh, f14⟩
    obtain ⟨gh, ch, rfl⟩ := ownG_some oh
    have F14 := F13.trans f14
    have f134 := f13.trans f14
    have ow := ow.fr f134
    have om := om.fr f134
    clear f13 f14 F13 F11 o13 hl13 f134
    go_wp2_with fail
    refine (eqPrs_same _ _ _ _ _ J _ rfl (ownG_readsG oh) (ownG_readsG ow)).mono ?_
    rintro e u15 ⟨rfl, f15⟩
    have om := om.fr f15
    go_wp2_with fail
    refine (heldPr_any _ _ _ 1 _ (by omega) (by omega) (ownG_readsU om)).mono ?_
    rintro e u16 ⟨rfl, rfl⟩
    go_wp2_with fail
    go_ret
    exact ⟨rfl, (F14.trans f15).below⟩
  · rw [if_neg hbig] at cZ
    go_enter Tryz.func8, Tryz.ntmps8
    go_wp2_with fail
    refine (cZ _).mono ?_
    rintro e u0 ⟨rfl, rfl⟩
    go_wp2_with fail
    go_ret
    exact ⟨rfl, (Fr.refl _).below⟩
end Go.Proofs.YtcofhmikdkkigaaGreatDoor
