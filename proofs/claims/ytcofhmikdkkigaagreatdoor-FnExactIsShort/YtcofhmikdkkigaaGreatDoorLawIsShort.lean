/-
  The walk of the law on IsShort.
-/
import Derived.Test.YtcofhmikdkkigaaGreatDoorPsD
import Derived.Test.YtcofhmikdkkigaaGreatDoorPrBG
import Derived.Test.YtcofhmikdkkigaaGreatDoorPrAU
import Derived.Test.YtcofhmikdkkigaaGreatDoorPrBK
import Derived.Test.YtcofhmikdkkigaaGreatDoorPsB
namespace Go.Proofs.YtcofhmikdkkigaaGreatDoor
open Go.RowKit

set_option maxRecDepth 20000 in
set_option maxHeartbeats 4000000 in
theorem isShortLaw (a0 : Option Addr) (cap0 : Nat) (lo : Option Addr) (cap1 : Nat) (a1 a2 : Int) (es : List Ev) (lk : List Bool) (w : World) (hm1 : lk.length ≤ maxLen) (hr1 : lk.length ≤ 16777216 → ReadsG layBo w lo lk) (hm : es.length ≤ maxLen) (hr : es.length ≤ 16777216 → ReadsE w a0 es) (hs : Shapes w) :
    Calls Tryz.prog 9 #[.slice a0 es.length cap0, .slice lo lk.length cap1, .int .i64 a1, .int .i64 a2] w fun e w' => e = .returned (.bool true) ∧ Below w.heap.size w w' := by
  have hcap : es.length ≤ 9223372036854775807 := by unfold maxLen at hm; omega
  have hcap1 : lk.length ≤ 9223372036854775807 := by unfold maxLen at hm1; omega
  by_cases hbig1 : 1048576 < lk.length
  · go_enter Tryz.func9, Tryz.ntmps9
    go_wp2_with fail
    go_ret
    exact ⟨rfl, (Fr.refl _).below⟩
  have hr1 := hr1 (by omega)
  have hlk : ¬ ((1048576 : Int) < (lk.length : Int)) := by omega
  have cZ := fun w => sz_any a0 es.length cap0 w hcap
  by_cases hbig : es.length ≤ 1048576
  · rw [if_pos hbig] at cZ
    have hr := hr (by omega)
    have cB := fun w h => toBo_any lo lk.length cap1 lk w rfl h
    have cEB := fun ao bo c d w h h' => eqBo_same ao bo lk.length c d lk w rfl h h'
    have cT := fun w h => toEs_any a0 es.length cap0 es w rfl h
    have cS := fun g c lo2 m2 w hc h hL => specIsShort_any g 0 es.length c lo2 lk.length m2 es lk a1 a2 w rfl hc h rfl hL (by omega)
    have cI := fun g c lo2 m2 w hc h hs hab hL => implIsShort_any g 0 es.length c lo2 lk.length m2 es lk a1 a2 w rfl hc h hs hab rfl hL (by omega)
    have cE := fun ao bo c d w h h' => eqEs_same ao bo es.length c d es w rfl h h'
    obtain ⟨J, hJ⟩ : ∃ J, J = hasP (pairsL (lpL es) lk true (lpL es).length) a1 a2 := ⟨_, rfl⟩
    simp only [← hJ] at cS cI
    clear hJ hm hcap
    go_enter Tryz.func9, Tryz.ntmps9
    go_wp2_with fail
    refine (cZ _).mono ?_
    rintro e u0 ⟨rfl, rfl⟩
    clear cZ
    go_wp2_with fail
    refine (cT _ hr).mono ?_
    rintro e u1 ⟨v1, rfl, o1, f1⟩
    obtain ⟨g1, c1, rfl, o1, hl1⟩ := o1
    go_wp2_with fail
    refine (cB _ (hr1.fr f1)).mono ?_
    rintro e u2 ⟨rfl, o2, f2⟩
    have F2 := f1.trans f2
    have o1 := o1.kept f2 (by simp [Value.ownBlock])
    go_wp2_with fail
    refine (cS _ _ _ _ _ (own_capR o1) (own_readsE o1 hl1) (ownG_readsG o2)).mono ?_
    rintro e u3 ⟨rfl, f3⟩
    have F3 := F2.trans f3
    clear o1 hl1 cS o2 f1 f2 f3 F2
    go_wp2_with fail
    refine (cT _ (hr.fr F3)).mono ?_
    rintro e u4 ⟨v4, rfl, ox, f4⟩
    obtain ⟨gx, cx, rfl, ox, hlx⟩ := ox
    have tx := ox.lt gx rfl
    have F4 := F3.trans f4
    go_wp2_with fail
    refine (cB _ (hr1.fr F4)).mono ?_
    rintro e u5 ⟨rfl, oy, f5⟩
    obtain ⟨gy, hgy⟩ : ∃ gy, gy = u4.heap.size := ⟨_, rfl⟩
    have HGY : Hid (gy = u4.heap.size) := hgy
    rw [← hgy] at oy ⊢
    clear hgy
    have F5 := F4.trans f5
    have z5 := f5.size
    have ox := ox.kept f5 (by simp [Value.ownBlock])
    clear F3 F4 f4 f5
    go_wp2_with fail
    refine (cI _ _ _ _ _ (own_capR ox) (own_readsE ox hlx) (hs.fr F5) (by omega) (ownG_readsG oy)).mono ?_
    rintro e u6 ⟨rfl, f6⟩
    have F6 := F5.trans f6
    have ox := ox.kept f6 (by simp [Value.ownBlock])
    have oy := oy.fr f6
    clear F5 f6
    go_wp2_with fail
    refine (cT _ (hr.fr F6)).mono ?_
    rintro e u7 ⟨v7, rfl, o7, f7⟩
    obtain ⟨g7, c7, rfl, o7, hl7⟩ := o7
    have ox := ox.kept f7 (by simp [Value.ownBlock])
    have oy := oy.fr f7
    go_wp2_with fail
    refine (cE _ _ _ _ _ (own_readsE ox hlx) (own_readsE o7 hl7)).mono ?_
    rintro e u8 ⟨rfl, f8⟩
    have F8 := (F6.trans f7).trans f8
    have oy := oy.fr f8
    clear o7 hl7 ox hlx F6 f7 f8
    go_wp2_with fail
    refine (cB _ (hr1.fr F8)).mono ?_
    rintro e u9 ⟨rfl, o9, f9⟩
    obtain ⟨g9, hg9⟩ : ∃ gy, gy = u8.heap.size := ⟨_, rfl⟩
    rw [← hg9] at o9 ⊢
    clear hg9
    have oy := oy.fr f9
    have F9 := F8.trans f9
    go_wp2_with fail
    refine (cEB _ _ _ _ _ (ownG_readsG oy) (ownG_readsG o9)).mono ?_
    rintro e u10 ⟨rfl, n10, rfl⟩
    go_wp2_with fail
    go_ret
    exact ⟨rfl, (F9.trans (Fr.drewN _ n10)).below⟩
  · rw [if_neg hbig] at cZ
    go_enter Tryz.func9, Tryz.ntmps9
    go_wp2_with fail
    refine (cZ _).mono ?_
    rintro e u0 ⟨rfl, rfl⟩
    go_wp2_with fail
    go_ret
    exact ⟨rfl, (Fr.refl _).below⟩
end Go.Proofs.YtcofhmikdkkigaaGreatDoor
