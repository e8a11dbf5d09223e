/-
  The walk of the law on ShortIn.
-/
import Derived.Test.YtcofhmikdkkigaaGreatDoorLawRaces
import Derived.Test.YtcofhmikdkkigaaGreatDoorPsB
import Derived.Test.YtcofhmikdkkigaaGreatDoorPrBG
import Derived.Test.YtcofhmikdkkigaaGreatDoorPrAU
import Derived.Test.YtcofhmikdkkigaaGreatDoorPrBK
namespace Go.Proofs.YtcofhmikdkkigaaGreatDoor
open Go.RowKit

set_option maxRecDepth 20000 in
set_option maxHeartbeats 4000000 in
theorem shortLaw (a0 : Option Addr) (cap0 : Nat) (lo : Option Addr) (cap1 : Nat) (es : List Ev) (lk : List Bool) (w : World) (hm1 : lk.length ≤ maxLen) (hr1 : lk.length ≤ 16777216 → ReadsG layBo w lo lk) (hm : es.length ≤ maxLen) (hr : es.length ≤ 16777216 → ReadsE w a0 es) (hs : Shapes w) :
    Calls Tryz.prog 10 #[.slice a0 es.length cap0, .slice lo lk.length cap1] w fun e w' => e = .returned (.bool true) ∧ Below w.heap.size w w' := by
  have hcap : es.length ≤ 9223372036854775807 := by unfold maxLen at hm; omega
  have hcap1 : lk.length ≤ 9223372036854775807 := by unfold maxLen at hm1; omega
  by_cases hbig1 : 1048576 < lk.length
  · go_enter Tryz.func10, Tryz.ntmps10
    go_wp2_with fail
    go_ret
    exact ⟨rfl, (Fr.refl _).below⟩
  have hr1 := hr1 (by omega)
  have hlk : ¬ ((1048576 : Int) < (lk.length : Int)) := by omega
  have cZ := fun w => sz_any a0 es.length cap0 w hcap
  by_cases hbig : es.length ≤ 1048576
  · rw [if_pos hbig] at cZ
    have hr := hr (by omega)
    have cB := fun w h => toBo_any lo lk.length cap1 lk w rfl h
    have cEB := fun ao bo c d w h h' => eqBo_same ao bo lk.length c d lk w rfl h h'
    have cT := fun w h => toEs_any a0 es.length cap0 es w rfl h
    have cS := fun g c lo2 m2 w hc h hL => specShort_any g 0 es.length c lo2 lk.length m2 es lk w rfl hc h rfl hL (by omega)
    have cI := fun g c lo2 m2 w hc h hs hab hL => implShort_any g 0 es.length c lo2 lk.length m2 es lk w rfl hc h hs hab rfl hL (by omega)
    have cE := fun ao bo c d w h h' => eqEs_same ao bo es.length c d es w rfl h h'
    have cM := fun g c base w h => markEs_any g es.length c base 1 es w rfl (by omega) (by omega) h (by omega)
    have cMB := fun g c base q w q0 q1 h => markBo_any g lk.length c base q lk w rfl q0 q1 h
    have hK : ((1 + 8 * (es.length : Int) + (lk.length : Int)) < 0) = False := by simp; omega
    obtain ⟨kk, hkk⟩ : ∃ kk, kk = 1 + 8 * (es.length : Int) := ⟨_, rfl⟩
    rw [← hkk] at hK
    simp only [← hkk] at cM
    have hk1 : 0 ≤ kk ∧ kk ≤ 4294967296 := by omega
    clear hkk
    have hJl := pairsL_len (lpL es) lk true (lpL es).length (lpL_300 es)
    have h300 := lpL_300 es
    obtain ⟨J, hJ⟩ : ∃ J, J = pairsL (lpL es) lk true (lpL es).length := ⟨_, rfl⟩
    have hJ9 : J.length ≤ 90000 := by rw [hJ]; omega
    clear hJl h300
    simp only [← hJ] at cS cI
    clear hJ hm hcap
    go_enter Tryz.func10, Tryz.ntmps10
    go_wp2_with fail
    refine (cZ _).mono ?_
    rintro e u0 ⟨rfl, rfl⟩
    clear cZ
    go_wp2_with fail
    refine (cT _ hr).mono ?_
    rintro e u1 ⟨v1, rfl, o1, f1⟩
    obtain ⟨g1, c1, rfl, o1, hl1⟩ := o1
    go_wp2_with fail
    refine (cB _ (hr1.fr f1)).mono ?_
    rintro e u2 ⟨rfl, o2, f2⟩
    have F2 := f1.trans f2
    have o1 := o1.kept f2 (by simp [Value.ownBlock])
    go_wp2_with fail
    refine (cS _ _ _ _ _ (own_capR o1) (own_readsE o1 hl1) (ownG_readsG o2)).mono ?_
    rintro e u3 ⟨v3, rfl, ow, f3⟩
    obtain ⟨gw, cw, rfl⟩ := ownG_some ow
    have F3 := F2.trans f3
    have sw := OwnG.lt ow gw rfl
    have sw2 := ownG_blk ow gw rfl
    clear o1 hl1 cS o2
    have z1 := f1.size
    have z2 := f2.size
    have z3 := f3.size
    clear f1 f2 f3 F2
    go_wp2_with fail
    refine (cT _ (hr.fr F3)).mono ?_
    rintro e u4 ⟨v4, rfl, ox, f4⟩
    obtain ⟨gx, cx, rfl, ox, hlx⟩ := ox
    have tx := ox.lt gx rfl
    have F4 := F3.trans f4
    go_wp2_with fail
    refine (cB _ (hr1.fr F4)).mono ?_
    rintro e u5 ⟨rfl, oy, f5⟩
    obtain ⟨gy, hgy⟩ : ∃ gy, gy = u4.heap.size := ⟨_, rfl⟩
    have hxy : gx < gy := by omega
    have hy3 : u3.heap.size ≤ gy := by have := f4.size; omega
    rw [← hgy] at oy ⊢
    clear hgy
    have ty := OwnG.lt oy gy rfl
    have F5 := F4.trans f5
    have z4 := f4.size
    have z5 := f5.size
    have ox := ox.kept f5 (by simp [Value.ownBlock])
    have ow := ow.fr (f4.trans f5)
    clear F3 F4 f4 f5
    go_wp2_with fail
    refine (cI _ _ _ _ _ (own_capR ox) (own_readsE ox hlx) (hs.fr F5) (by omega) (ownG_readsG oy)).mono ?_
    rintro e u6 ⟨v6, rfl, og, f6⟩
    obtain ⟨gg, cg, rfl⟩ := ownG_some og
    have tg := OwnG.lt og gg rfl
    have tg2 := ownG_blk og gg rfl
    have F6 := F5.trans f6
    have z6 := f6.size
    have ox := ox.kept f6 (by simp [Value.ownBlock])
    have oy := oy.fr f6
    have ow := ow.fr f6
    clear F5 f6
    go_wp2_with fail
    refine (eqPrs_same _ _ _ _ _ J _ rfl (ownG_readsG og) (ownG_readsG ow)).mono ?_
    rintro e u7 ⟨rfl, f7⟩
    have F7 := F6.trans f7
    have ox := ox.kept f7 (by simp [Value.ownBlock])
    have oy := oy.fr f7
    have ow := ow.fr f7
    have og := og.fr f7
    go_wp2_with fail
    refine (cT _ (hr.fr F7)).mono ?_
    rintro e u8 ⟨v8, rfl, o8, f8⟩
    obtain ⟨g8, c8, rfl, o8, hl8⟩ := o8
    have ox := ox.kept f8 (by simp [Value.ownBlock])
    have oy := oy.fr f8
    have ow := ow.fr f8
    have og := og.fr f8
    go_wp2_with fail
    refine (cE _ _ _ _ _ (own_readsE ox hlx) (own_readsE o8 hl8)).mono ?_
    rintro e u9 ⟨rfl, f9⟩
    have F9 := (F7.trans f8).trans f9
    have ox := ox.kept f9 (by simp [Value.ownBlock])
    have oy := oy.fr f9
    have ow := ow.fr f9
    have og := og.fr f9
    clear o8 hl8 F6 F7 f7 f8 f9
    go_wp2_with fail
    refine (cB _ (hr1.fr F9)).mono ?_
    rintro e u10 ⟨rfl, o10, f10⟩
    obtain ⟨g10, hg10⟩ : ∃ gy, gy = u9.heap.size := ⟨_, rfl⟩
    rw [← hg10] at o10 ⊢
    clear hg10
    have F10 := F9.trans f10
    have ox := ox.kept f10 (by simp [Value.ownBlock])
    have oy := oy.fr f10
    have ow := ow.fr f10
    have og := og.fr f10
    clear F9 f10
    go_wp2_with fail
    refine (cEB _ _ _ _ _ (ownG_readsG oy) (ownG_readsG o10)).mono ?_
    rintro e u11 ⟨rfl, n11, rfl⟩
    have f11 := Fr.drewN u10 n11
    have F11 := F10.trans f11
    have ox := ox.kept f11 (by simp [Value.ownBlock])
    have oy := oy.fr f11
    have ow := ow.fr f11
    have og := og.fr f11
    clear o10 F10 f11
    go_wp2_with fail
    refine (cM _ _ _ _ ox).mono ?_
    rintro e u12 ⟨rfl, -, k12⟩
    have F12 := F11.then k12 (fun j hj => by cases hj; omega)
    have oy := oy.keep k12 (pr_ne (by omega))
    have ow := ow.keep k12 (pr_ne (by omega))
    have og := og.keep k12 (pr_ne (by omega))
    clear k12 ox F11
    go_wp2_with fail
    refine (cMB _ _ _ _ _ hk1.1 hk1.2 oy).mono ?_
    rintro e u13 ⟨rfl, k13⟩
    have F13 := F12.then k13 (fun j hj => by cases hj; omega)
    have ow := ow.keep k13 (pr_ne (by omega))
    have og := og.keep k13 (pr_ne (by omega))
    clear k13 oy F12
    go_wp2_with fail
    refine (eqPrs_same _ _ _ _ _ J _ rfl (ownG_readsG og) (ownG_readsG ow)).mono ?_
    rintro e u14 ⟨rfl, f14⟩
    have F14 := F13.trans f14
    have ow := ow.fr f14
    have og := og.fr f14
    clear F13 f14
    go_wp2_with fail
    refine (markPr_any _ _ _ _ 1 J _ rfl (by omega) (by omega) og).mono ?_
    rintro e u15 ⟨rfl, om, k15⟩
    have F15 := F14.then k15 (fun j hj => by cases hj; omega)
    have ow := ow.keep k15 (pr_ne (by omega))
    clear k15 og F14
    go_wp2_with fail
    refine (heldPr_any _ _ _ 1 _ (by omega) (by omega) (ownG_readsU om)).mono ?_
    rintro e u16 ⟨rfl, rfl⟩
    go_wp2_with fail
    refine (cT _ (hr.fr F15)).mono ?_
    rintro e u17 ⟨v17, rfl, o17, f17⟩
    obtain ⟨g17, c17, rfl, o17, hl17⟩ := o17
    have t17 := o17.lt g17 rfl
    have F17 := F15.trans f17
    go_wp2_with fail
    refine (cB _ (hr1.fr F17)).mono ?_
    rintro e u18 ⟨rfl, o18, f18⟩
    have F18 := F17.trans f18
    have z18 := f18.size
    have o17 := o17.kept f18 (by simp [Value.ownBlock])
    have f178 := f17.trans f18
    have ow := ow.fr f178
    have om := om.fr f178
    clear F15 F17 f17 f18 f178
    go_wp2_with fail
    refine (cI _ _ _ _ _ (own_capR o17) (own_readsE o17 hl17) (hs.fr F18) (by omega) (ownG_readsG o18)).mono ?_
    rintro e u19 ⟨v19, rfl, oh, f19⟩
    obtain ⟨gh, ch, rfl⟩ := ownG_some oh
    have F19 := F18.trans f19
    have ow := ow.fr f19
    have om := om.fr f19
    clear o17 hl17 o18 F18 f19
    go_wp2_with fail
    refine (eqPrs_same _ _ _ _ _ J _ rfl (ownG_readsG oh) (ownG_readsG ow)).mono ?_
    rintro e u20 ⟨rfl, f20⟩
    have om := om.fr f20
    go_wp2_with fail
    refine (heldPr_any _ _ _ 1 _ (by omega) (by omega) (ownG_readsU om)).mono ?_
    rintro e u21 ⟨rfl, rfl⟩
    go_wp2_with fail
    go_ret
    exact ⟨rfl, (F19.trans f20).below⟩
  · rw [if_neg hbig] at cZ
    go_enter Tryz.func10, Tryz.ntmps10
    go_wp2_with fail
    refine (cZ _).mono ?_
    rintro e u0 ⟨rfl, rfl⟩
    go_wp2_with fail
    go_ret
    exact ⟨rfl, (Fr.refl _).below⟩
end Go.Proofs.YtcofhmikdkkigaaGreatDoor
