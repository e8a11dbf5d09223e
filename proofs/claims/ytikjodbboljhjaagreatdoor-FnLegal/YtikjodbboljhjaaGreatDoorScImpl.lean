/-
  The program's locksOk, chansOk, groupsOk and SceneOk.
-/
import Derived.Test.YtikjodbboljhjaaGreatDoorScRise
import Derived.Test.YtikjodbboljhjaaGreatDoorScIs
namespace Go.Proofs.YtikjodbboljhjaaGreatDoor
open Go.RowKit

/-- A lock as the program asks: a writer and no readers, or readers that rise and no writer. -/
def lk2 (g : Int) (l : Lk) : Bool := (decide (l.rd.length = 0) && inB 0 (g - 1) l.wr) || (decide (0 < l.rd.length) && (l.wr == -1) && upFrom (g - 1) (-1) l.rd)
def ch2 (c : Ch) : Bool := inB 0 8 c.cap && inB 0 1000000 c.sent && inB 0 c.sent c.got && decide (c.sent - c.got ≤ c.cap)
theorem all_take {α : Type} {p : α → Bool} {xs : List α} (h : ∀ j (hj : j < xs.length), p xs[j] = true) : xs.all p = true := by
  rw [List.all_eq_true]
  intro x hx
  obtain ⟨j, hj, rfl⟩ := List.mem_iff_getElem.1 hx
  exact h j hj
theorem all_bad {α : Type} {p : α → Bool} {xs : List α} {k : Nat} (hk : k < xs.length) (h : p xs[k] = false) : xs.all p = false := by
  rw [List.all_eq_false]
  exact ⟨xs[k], List.getElem_mem hk, by simp [h]⟩
theorem upto_good {α : Type} {p : α → Bool} {xs : List α} {k : Nat} (h : ∀ j (hj : j < xs.length), j < k → p xs[j] = true) (hk : k < xs.length) (he : p xs[k] = true) : ∀ j (hj : j < xs.length), j < k + 1 → p xs[j] = true := by
  intro j hj hjk
  by_cases e : j = k
  · subst e; exact he
  · exact h j hj (by omega)

set_option maxHeartbeats 1000000 in
theorem groupsOk_any (ao : Option Addr) (n c : Nat) (es : List Ct) (w : World) (hn : es.length = n) (hl : es.length ≤ 1048576) (h : ReadsG layN w ao es) :
    Calls Tryz.prog 56 #[.slice ao n c] w fun e w' => e = .returned (.bool (es.all (fun c => inB 1 1000000 c.n) && upFrom 15 (-1) (es.map Ct.o))) ∧ Fr w w' := by
  subst hn
  have cR := fun u (f : Fr w u) => risesN_any ao es.length c es 15 u rfl hl (h.fr f)
  obtain ⟨U, hU⟩ : ∃ U, U = upFrom 15 (-1) (es.map Ct.o) := ⟨_, rfl⟩
  simp only [← hU] at cR ⊢
  clear hU
  obtain ⟨R, hR⟩ : ∃ R, R = (es.all (fun c => inB 1 1000000 c.n) && U) := ⟨_, rfl⟩
  rw [← hR]
  have HR : Hid (R = (es.all (fun c => inB 1 1000000 c.n) && U)) := hR
  clear hR
  go_enter Tryz.func56, Tryz.ntmps56
  go_wp2_with fail
  go_loopw [7] (fun i wr => ∃ k : Nat, k ≤ es.length ∧ i = .int .i64 k ∧ Hid (∀ j (hj : j < es.length), j < k → inB 1 1000000 es[j].n = true) ∧ Fr w wr) (fun i _ => es.length - (intOf i).toNat)
  case atStart => exact ⟨0, Nat.zero_le _, rfl, fun j hj hk => by omega, Fr.refl w⟩
  case round =>
    obtain ⟨k, hk, rfl, HA, hf⟩ := hrel
    by_cases hlt : k < es.length
    · obtain ⟨b, off, rfl, d0, d1⟩ := ct_at (h.fr hf) k hlt
      have HB : Hid (inB 1 1000000 es[k].n = false → R = false) := fun q => by rw [HR.out, all_bad (p := fun c : Ct => inB 1 1000000 c.n) hlt q]; rfl
      have HG : Hid (inB 1 1000000 es[k].n = true → ∀ j (hj : j < es.length), j < k + 1 → inB 1 1000000 es[j].n = true) := fun q => upto_good (p := fun c : Ct => inB 1 1000000 c.n) HA.out hlt q
      obtain ⟨e, he⟩ : ∃ e, e = es[k] := ⟨_, rfl⟩
      rw [← he] at HB HG
      simp only [← he] at d0 d1
      clear he
      obtain ⟨eo, en⟩ := e
      simp only at d0 d1 HB HG
      have f2 := hf.trans (Fr.alloc wr (.cells #[.int .i64 eo, .int .i64 en] 85))
      go_wp2_with fail
      refine (within_any _ _ _ _).mono ?_
      rintro e y ⟨rfl, rfl⟩
      clear d0 d1
      cases hg : inB 1 1000000 en
      · have HN : Hid (R = false) := HB.out hg
        go_wp2_with fail
        go_ret
        exact ⟨ret_bool HN.out.symm, f2⟩
      · have HN : Hid (∀ j (hj : j < es.length), j < k + 1 → inB 1 1000000 es[j].n = true) := HG.out hg
        go_wp2_with fail
        go_roundw
        case rel => exact ⟨k + 1, by omega, by go_num, HN, f2⟩
        case measure => simp [intOf]; omega
    · have HN : Hid (U = R) := by
        show U = R
        rw [HR.out, all_take (p := fun c : Ct => inB 1 1000000 c.n) (fun j hj => HA.out j hj (by omega))]; rfl
      go_wp2_with fail
      refine (cR _ hf).mono ?_
      rintro e y ⟨rfl, fy⟩
      go_wp2_with fail
      go_ret
      exact ⟨ret_bool HN.out, hf.trans fy⟩

set_option maxHeartbeats 2000000 in
theorem chansOk_any (ao : Option Addr) (n c : Nat) (es : List Ch) (w : World) (hn : es.length = n) (hl : es.length ≤ 1048576) (h : ReadsG layC w ao es) :
    Calls Tryz.prog 55 #[.slice ao n c] w fun e w' => e = .returned (.bool (es.all ch2 && upFrom 15 (-1) (es.map Ch.o))) ∧ Fr w w' := by
  subst hn
  have cR := fun u (f : Fr w u) => risesC_any ao es.length c es 15 u rfl hl (h.fr f)
  obtain ⟨U, hU⟩ : ∃ U, U = upFrom 15 (-1) (es.map Ch.o) := ⟨_, rfl⟩
  simp only [← hU] at cR ⊢
  clear hU
  obtain ⟨R, hR⟩ : ∃ R, R = (es.all ch2 && U) := ⟨_, rfl⟩
  rw [← hR]
  have HR : Hid (R = (es.all ch2 && U)) := hR
  clear hR
  go_enter Tryz.func55, Tryz.ntmps55
  go_wp2_with fail
  go_loopw [7] (fun i wr => ∃ k : Nat, k ≤ es.length ∧ i = .int .i64 k ∧ Hid (∀ j (hj : j < es.length), j < k → ch2 es[j] = true) ∧ Fr w wr) (fun i _ => es.length - (intOf i).toNat)
  case atStart => exact ⟨0, Nat.zero_le _, rfl, fun j hj hk => by omega, Fr.refl w⟩
  case round =>
    obtain ⟨k, hk, rfl, HA, hf⟩ := hrel
    by_cases hlt : k < es.length
    · obtain ⟨b, off, rfl, d0, d1, d2, d3, d4⟩ := ch_at (h.fr hf) k hlt
      have HB : Hid (ch2 es[k] = false → R = false) := fun q => by rw [HR.out, all_bad hlt q]; rfl
      have HG : Hid (ch2 es[k] = true → ∀ j (hj : j < es.length), j < k + 1 → ch2 es[j] = true) := fun q => upto_good HA.out hlt q
      obtain ⟨e, he⟩ : ∃ e, e = es[k] := ⟨_, rfl⟩
      rw [← he] at HB HG
      simp only [← he] at d0 d1 d2 d3 d4
      clear he
      obtain ⟨eo, ec, es1, eg, el⟩ := e
      simp only at d0 d1 d2 d3 d4
      unfold ch2 at HB HG
      simp only at HB HG
      have f2 := hf.trans (Fr.alloc wr (.cells #[.int .i64 eo, .int .i64 ec, .int .i64 es1, .int .i64 eg, .bool el] 82))
      go_wp2_with fail
      refine (within_any _ _ _ _).mono ?_
      rintro e y ⟨rfl, rfl⟩
      clear d0 d1 d2 d3 d4
      cases h1 : inB 0 8 ec
      · have HN : Hid (R = false) := HB.out (by rw [h1]; rfl)
        go_wp2_with fail
        go_ret
        exact ⟨ret_bool HN.out.symm, f2⟩
      go_wp2_with fail
      refine (within_any _ _ _ _).mono ?_
      rintro e y ⟨rfl, rfl⟩
      cases h2 : inB 0 1000000 es1
      · have HN : Hid (R = false) := HB.out (by rw [h1, h2]; rfl)
        go_wp2_with fail
        go_ret
        exact ⟨ret_bool HN.out.symm, f2⟩
      go_wp2_with fail
      refine (within_any _ _ _ _).mono ?_
      rintro e y ⟨rfl, rfl⟩
      cases h3 : inB 0 es1 eg
      · have HN : Hid (R = false) := HB.out (by rw [h1, h2, h3]; rfl)
        go_wp2_with fail
        go_ret
        exact ⟨ret_bool HN.out.symm, f2⟩
      have b1 := inB_true h1
      have b2 := inB_true h2
      have b3 := inB_true h3
      have hwr : IntKind.i64.wrap (es1 - eg) = es1 - eg := by rw [IntKind.wrap_i64]; omega
      by_cases h4 : es1 - eg ≤ ec
      · have HN : Hid (∀ j (hj : j < es.length), j < k + 1 → ch2 es[j] = true) := HG.out (by rw [h1, h2, h3, decide_eq_true h4]; rfl)
        have hd : decide (ec < es1 - eg) = false := decide_eq_false (by omega)
        clear HB HG b1 b2 b3
        go_wp2_with fail
        go_roundw
        case rel => exact ⟨k + 1, by omega, by go_num, HN, f2⟩
        case measure => simp [intOf]; omega
      · have HN : Hid (R = false) := HB.out (by rw [h1, h2, h3, decide_eq_false h4]; rfl)
        have hd : decide (ec < es1 - eg) = true := decide_eq_true (by omega)
        have h4' : ec < es1 - eg := by omega
        clear HB HG b1 b2 b3 h4
        go_wp2_with fail
        go_ret
        exact ⟨ret_bool HN.out.symm, f2⟩
    · have HN : Hid (U = R) := by
        show U = R
        rw [HR.out, all_take (p := ch2) (fun j hj => HA.out j hj (by omega))]; rfl
      go_wp2_with fail
      refine (cR _ hf).mono ?_
      rintro e y ⟨rfl, fy⟩
      go_wp2_with fail
      go_ret
      exact ⟨ret_bool HN.out, hf.trans fy⟩
end Go.Proofs.YtikjodbboljhjaaGreatDoor
