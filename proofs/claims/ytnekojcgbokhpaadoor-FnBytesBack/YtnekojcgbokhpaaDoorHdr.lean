/-
  The program's reader: header.
-/
import Derived.Test.YtnekojcgbokhpaaDoorRdr
import Derived.Test.YtnekojcgbokhpaaDoorDecSpec
import Derived.Test.YtnekojcgbokhpaaDoorCode
import Derived.Laws.BytesArg
namespace Go.Proofs.YtnekojcgbokhpaaDoor
open Go.RowKit

/-- What header answers. -/
def HdrC (bs : List Int) (r : Nat) (v : Value) (y : Addr) (w : World) (e : Ending) (w' : World) : Prop :=
  w.grownBy w' (some r) ∧
  ((hdB bs = true ∧ e = .returned .nilIface ∧ Rdr w' r v 3) ∨
   (hdB bs = false ∧ ∃ b i j, e = .returned (.iface 113 (.pointer (some ⟨b, 0, none⟩))) ∧ Flt w' b i (.iface 195 (.pointer (some y))) ∧ w.heap.size ≤ b ∧ Rdr w' r v j))

theorem str_head (a b c : Int) (ha : U8 a) (hb : U8 b) (hc : U8 c) : ((strOfNums [a, b, c]).toList == [82, 50, 49]) = decide (a = 82 ∧ b = 50 ∧ c = 49) := by
  obtain ⟨a0, a1⟩ := ha
  obtain ⟨b0, b1⟩ := hb
  obtain ⟨c0, c1⟩ := hc
  rw [ByteArray.toList_eq, Bool.eq_iff_iff, beq_iff_eq, decide_eq_true_eq, strOfNums_data]
  constructor
  · intro h
    have h1 := congrArg (fun l => l.map UInt8.toNat) h
    simp at h1
    omega
  · rintro ⟨rfl, rfl, rfl⟩
    rfl

set_option maxRecDepth 20000 in
set_option maxHeartbeats 1000000 in
theorem header_any (r : Nat) (ao : Option Addr) (n cap : Nat) (bs : List Int) (y : Addr) (w : World) (hn : bs.length = n) (h : ReadsB w ao bs) (hcap3 : 3 ≤ bs.length → 3 ≤ cap)
    (hr : Rdr w r (.slice ao n cap) 0) (hy : w.cell? ⟨2, 0, none⟩ = some (.iface 195 (.pointer (some y)))) :
    Calls Tryd.prog 69 #[.pointer (some ⟨r, 0, none⟩)] w (HdrC bs r (.slice ao n cap) y w) := by
  subst hn
  have c0 := hr.c0
  have c1 := hr.c1
  by_cases h3 : bs.length < 3
  · have HD : Hid (hdB bs = false) := hd_no (.inl h3)
    go_enter Tryd.func69, Tryd.ntmps69
    go_wp2_with fail
    go_ret
    exact ⟨(Fr.alloc w _).row _, .inr ⟨HD.out, w.heap.size, 0, 0, rfl, Flt.new w _ _, Nat.le_refl _, hr.fr (Fr.alloc w _)⟩⟩
  · obtain ⟨b, off, rfl, hc⟩ := h.at_ 0 (by omega)
    have a0 := hc 0 (by omega)
    have a1 := hc 1 (by omega)
    have a2 := hc 2 (by omega)
    rw [getD_at (by omega)] at a0 a1 a2
    have g0 : bs[0]? = some bs[0] := List.getElem?_eq_getElem (by omega)
    have g1 : bs[1]? = some bs[1] := List.getElem?_eq_getElem (by omega)
    have g2 : bs[2]? = some bs[2] := List.getElem?_eq_getElem (by omega)
    have u0 := h.bd _ (List.getElem_mem (show 0 < bs.length by omega))
    have u1 := h.bd _ (List.getElem_mem (show 1 < bs.length by omega))
    have u2 := h.bd _ (List.getElem_mem (show 2 < bs.length by omega))
    obtain ⟨y0, hy0⟩ : ∃ y, y = bs[0] := ⟨_, rfl⟩
    obtain ⟨y1, hy1⟩ : ∃ y, y = bs[1] := ⟨_, rfl⟩
    obtain ⟨y2, hy2⟩ : ∃ y, y = bs[2] := ⟨_, rfl⟩
    rw [← hy0] at a0 g0 u0
    rw [← hy1] at a1 g1 u1
    rw [← hy2] at a2 g2 u2
    rw [Nat.add_zero] at a0
    clear hy0 hy1 hy2
    have kc := run_convert_bytes_arg (P := Tryd.prog) w 22 5 Tryd.underlying22 Tryd.underlying5 b off 3 cap [y0, y1, y2] rfl (by
      intro i hi
      rcases (by omega : i = 0 ∨ i = 1 ∨ i = 2) with rfl | rfl | rfl
      · exact a0
      · exact a1
      · exact a2) 9 Tryd.underlying9
    have hs := str_head y0 y1 y2 u0 u1 u2
    have hcap : 3 ≤ cap := hcap3 (by omega)
    obtain ⟨S, hS⟩ : ∃ S, S = strOfNums [y0, y1, y2] := ⟨_, rfl⟩
    rw [← hS] at kc hs
    clear hS hc a0 a1 a2 h u0 u1 u2
    by_cases hd : y0 = 82 ∧ y1 = 50 ∧ y2 = 49
    · have HS : Hid (hdB bs = true) := by
        obtain ⟨rfl, rfl, rfl⟩ := hd
        exact hd_yes g0 g1 g2
      have hb : (S.toList == [82, 50, 49]) = true := by rw [hs]; exact decide_eq_true hd
      have rf := hr.free 1
      have hset := hr.set 3
      clear hd hs g0 g1 g2
      go_enter Tryd.func69, Tryd.ntmps69
      go_wp2_with fail
      go_ret
      exact ⟨grown_setCell w r 1 _, .inl ⟨HS.out, rfl, hset⟩⟩
    · have HD : Hid (hdB bs = false) := by
        refine hd_no (.inr ?_)
        rw [g0, g1, g2]
        simp only [ne_eq, Option.some.injEq]
        omega
      have hb : (S.toList == [82, 50, 49]) = false := by rw [hs]; exact decide_eq_false hd
      clear hd hs g0 g1 g2
      go_enter Tryd.func69, Tryd.ntmps69
      go_wp2_with fail
      go_ret
      exact ⟨(Fr.alloc w _).row _, .inr ⟨HD.out, w.heap.size, 0, 0, rfl, Flt.new w _ _, Nat.le_refl _, hr.fr (Fr.alloc w _)⟩⟩
end Go.Proofs.YtnekojcgbokhpaaDoor
