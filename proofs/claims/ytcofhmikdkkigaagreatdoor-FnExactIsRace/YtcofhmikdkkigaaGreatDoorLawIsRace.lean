/-
  The walk of the law on IsRace.
-/
import Derived.Test.YtcofhmikdkkigaaGreatDoorIsRaces
import Derived.Test.YtcofhmikdkkigaaGreatDoorPrBG
import Derived.Test.YtcofhmikdkkigaaGreatDoorPrAU
import Derived.Test.YtcofhmikdkkigaaGreatDoorPrBK
namespace Go.Proofs.YtcofhmikdkkigaaGreatDoor
open Go.RowKit

set_option maxRecDepth 20000 in
set_option maxHeartbeats 4000000 in
theorem isRaceLaw (a0 : Option Addr) (cap0 : Nat) (a1 a2 : Int) (es : List Ev) (w : World) (hm : es.length ≤ maxLen) (hr : es.length ≤ 16777216 → ReadsE w a0 es) (hs : Shapes w) :
    Calls Tryz.prog 7 #[.slice a0 es.length cap0, .int .i64 a1, .int .i64 a2] w fun e w' => e = .returned (.bool true) ∧ Below w.heap.size w w' := by
  have hcap : es.length ≤ 9223372036854775807 := by unfold maxLen at hm; omega
  have cZ := fun w => sz_any a0 es.length cap0 w hcap
  by_cases hbig : es.length ≤ 1048576
  · rw [if_pos hbig] at cZ
    have hr := hr (by omega)
    have cT := fun w h => toEs_any a0 es.length cap0 es w rfl h
    have cS := fun g c w hc h => specIsRace_any g 0 es.length c es a1 a2 w rfl hc h
    have cI := fun g c w hc h hs hab => implIsRace_any g 0 es.length c es a1 a2 w rfl hc h hs hab
    have cE := fun ao bo c d w h h' => eqEs_same ao bo es.length c d es w rfl h h'
    obtain ⟨J, hJ⟩ : ∃ J, J = hasP (pairsL (lpL es) [] false (lpL es).length) a1 a2 := ⟨_, rfl⟩
    simp only [← hJ] at cS cI
    clear hJ hm hcap
    go_enter Tryz.func7, Tryz.ntmps7
    go_wp2_with fail
    refine (cZ _).mono ?_
    rintro e u0 ⟨rfl, rfl⟩
    clear cZ
    go_wp2_with fail
    refine (cT _ hr).mono ?_
    rintro e u1 ⟨v1, rfl, o1, f1⟩
    obtain ⟨g1, c1, rfl, o1, hl1⟩ := o1
    go_wp2_with fail
    refine (cS _ _ _ (own_capR o1) (own_readsE o1 hl1)).mono ?_
    rintro e u2 ⟨rfl, f2⟩
    have F2 := f1.trans f2
    clear o1 hl1 cS
    go_wp2_with fail
    refine (cT _ (hr.fr F2)).mono ?_
    rintro e u3 ⟨v3, rfl, ox, f3⟩
    obtain ⟨gx, cx, rfl, ox, hlx⟩ := ox
    have tx := ox.lt gx rfl
    have F3 := F2.trans f3
    go_wp2_with fail
    refine (cI _ _ _ (own_capR ox) (own_readsE ox hlx) (hs.fr F3) tx.2).mono ?_
    rintro e u4 ⟨rfl, f4⟩
    have F4 := F3.trans f4
    have ox := ox.kept f4 (by simp [Value.ownBlock])
    clear f1 f2 f3 f4 F2 F3
    go_wp2_with fail
    refine (cT _ (hr.fr F4)).mono ?_
    rintro e u7 ⟨v7, rfl, o7, f7⟩
    obtain ⟨g7, c7, rfl, o7, hl7⟩ := o7
    have ox := ox.kept f7 (by simp [Value.ownBlock])
    go_wp2_with fail
    refine (cE _ _ _ _ _ (own_readsE ox hlx) (own_readsE o7 hl7)).mono ?_
    rintro e u8 ⟨rfl, f8⟩
    have F8 := (F4.trans f7).trans f8
    clear o7 hl7 ox hlx
    go_wp2_with fail
    go_ret
    exact ⟨rfl, F8.below⟩
  · rw [if_neg hbig] at cZ
    go_enter Tryz.func7, Tryz.ntmps7
    go_wp2_with fail
    refine (cZ _).mono ?_
    rintro e u0 ⟨rfl, rfl⟩
    go_wp2_with fail
    go_ret
    exact ⟨rfl, (Fr.refl _).below⟩
end Go.Proofs.YtcofhmikdkkigaaGreatDoor
