/-
  The scene with one goroutine: NewScene of the specification.
-/
import Derived.Test.YtikjodbboljhjaaGreatDoorScOf
namespace Go.Proofs.YtikjodbboljhjaaGreatDoor
open Go.RowKit

def scn0 : Scn := ⟨1, [], [], [], []⟩
theorem inB_none (B : Nat → Prop) : InB B none := fun b hb => by simp [blk] at hb
theorem scR_new (B : Nat → Prop) (w : World) : ScR B w ⟨1, none, 0, 0, none, 0, 0, none, 0, 0, none, 0, 0⟩ scn0 where
  g := rfl
  ig := ⟨by decide, by decide⟩
  lks := ⟨[], ReadsG.nil _ _ _, rfl, LksR.nil _ _⟩
  chs := ReadsG.nil _ _ _
  cl := rfl
  cts := ReadsG.nil _ _ _
  nl := rfl
  ons := Reads.nil _ _
  ol := rfl
  bl := inB_none _
  bc := inB_none _
  bn := inB_none _
  bo := inB_none _
  zo _ := rfl
  sl := by simp [scn0]
  sc := by simp [scn0]
  sn := by simp [scn0]
  so := by simp [scn0]
  ic c hc := by simp [scn0] at hc
  inn c hc := by simp [scn0] at hc

theorem newScene_any (B : Nat → Prop) (w : World) :
    Calls Tryz.prog 128 #[] w fun e w' => ∃ s : Sv, e = .returned (.agg #[.int .i64 s.g, .slice s.lo s.ll s.lc, .slice s.co s.cl s.cc, .slice s.no s.nl s.nc, .slice s.oo s.ol s.oc]) ∧ ScR B w' s scn0 ∧ Fr w w' := by
  go_enter Tryz.func128, Tryz.ntmps128
  go_wp2
  refine bodyPost_ret (v := .agg #[.int .i64 1, .slice none 0 0, .slice none 0 0, .slice none 0 0, .slice none 0 0]) (by simp [results, Tryz.results128, go_sem]) rfl ⟨⟨1, none, 0, 0, none, 0, 0, none, 0, 0, none, 0, 0⟩, rfl, scR_new _ _, Fr.alloc _ _⟩
end Go.Proofs.YtikjodbboljhjaaGreatDoor
