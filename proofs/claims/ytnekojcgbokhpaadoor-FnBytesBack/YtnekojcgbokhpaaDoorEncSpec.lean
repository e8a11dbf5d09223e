/-
  Encoded, by the specification.
-/
import Derived.Test.YtnekojcgbokhpaaDoorEvSpecL
import Derived.Test.YtnekojcgbokhpaaDoorEvRight
namespace Go.Proofs.YtnekojcgbokhpaaDoor
open Go.RowKit

/-- What Encoded answers. -/
def encA (es : List Ev) : List Int := if encB es then encL es else []

theorem evL_most (e : Ev) : (evL e).length ≤ 48 := by
  rw [← nums_ev e]
  have h1 := flat_len (nums e 6)
  have h2 := nums_len e 6
  omega
theorem evs_len (l : List Ev) : (l.flatMap evL).length ≤ l.length * 48 := by
  induction l with
  | nil => simp
  | cons e l ih =>
    have := evL_most e
    rw [List.flatMap_cons, List.length_append, List.length_cons]
    omega
theorem enc_step (es : List Ev) (k : Nat) (h : k < es.length) : ([82, 50, 49] ++ (es.take k).flatMap evL) ++ evL es[k] = [82, 50, 49] ++ (es.take (k + 1)).flatMap evL := by
  rw [List.take_succ_eq_append_getElem h, List.flatMap_append, List.append_assoc]
  simp

theorem head_u8 : ∀ x ∈ ([82, 50, 49] : List Int), U8 x := by
  intro x hx
  simp only [List.mem_cons, List.not_mem_nil, or_false] at hx
  rcases hx with rfl | rfl | rfl <;> exact ⟨by decide, by decide⟩

set_option maxHeartbeats 1000000 in
theorem specEnc_any (ao : Option Addr) (n cap : Nat) (es : List Ev) (w : World) (hn : es.length = n) (h : ReadsE w ao es) :
    Calls Tryd.prog 9 #[.slice ao n cap] w fun e w' => ∃ v, e = .returned (.tuple #[v, .bool (encB es)]) ∧ OwnBS w' w.heap.size v (encA es) ∧ Fr w w' := by
  subst hn
  have hl := h.len
  have cR := fun w h => right_any ao es.length cap es w rfl h
  rw [encA]
  cases hb : encB es
  · simp only [hb] at cR
    clear hb
    go_enter Tryd.func9, Tryd.ntmps9
    go_wp2_with fail
    refine (cR _ h).mono ?_
    rintro e w1 ⟨rfl, f1⟩
    go_wp2_with fail
    go_ret2
    exact ⟨_, rfl, (ownB_new w1).lower f1.size, f1.trans (Fr.alloc _ _)⟩
  · simp only [hb] at cR
    have hok : es.length ≤ 300 := by
      simp only [encB, Bool.and_eq_true, decide_eq_true_eq] at hb; exact hb.2
    have hall : ∀ k (hk : k < es.length), evOk es[k] = true := fun k hk => by
      simp only [encB, Bool.and_eq_true, List.all_eq_true] at hb
      exact hb.1 _ (List.getElem_mem hk)
    clear hb
    go_enter Tryd.func9, Tryd.ntmps9
    go_wp2_with fail
    refine (cR _ h).mono ?_
    rintro e w1 ⟨rfl, f1⟩
    have h1 := h.fr f1
    have s1 := f1.size
    go_wp2_with fail
    go_loopw [4, 5] (fun u i wr => ∃ k : Nat, k ≤ es.length ∧ i = .int .i64 k ∧ OwnBS wr w1.heap.size u ([82, 50, 49] ++ (es.take k).flatMap evL) ∧ Fr w1 wr) (fun _ i _ => es.length - (intOf i).toNat)
    case atStart => exact ⟨0, Nat.zero_le _, rfl, ownB_lit w1 [82, 50, 49] (by simp) head_u8, Fr.alloc _ _⟩
    case round =>
      obtain ⟨k, hk, rfl, ho, hf⟩ := hrel
      have hs := hf.size
      by_cases hlt : k < es.length
      · obtain ⟨b, off, rfl, hc⟩ := (h1.fr hf).at_ k hlt
        obtain ⟨c0, c1, c2, c3, c4, c5, c6, c7⟩ := hc k hlt
        have cE := fun w => l3Event_any es[k] w (hall k hlt)
        have HS : Hid (([82, 50, 49] ++ (es.take k).flatMap evL) ++ evL es[k] = [82, 50, 49] ++ (es.take (k + 1)).flatMap evL) := enc_step es k hlt
        have hl1 := evs_len (es.take k)
        have hl2 : (es.take k).length ≤ 300 := by simp; omega
        have hl3 := evL_most es[k]
        obtain ⟨e, he⟩ : ∃ e, e = es[k] := ⟨_, rfl⟩
        rw [← he] at c0 c1 c2 c3 c4 c5 c6 c7 HS hl3
        simp only [← he] at cE
        clear hc he
        obtain ⟨EL, hEL⟩ : ∃ EL, EL = evL e := ⟨_, rfl⟩
        rw [← hEL] at HS hl3
        simp only [← hEL] at cE
        clear hEL
        have hle : ([82, 50, 49] ++ (es.take k).flatMap evL).length + EL.length ≤ 4294967296 := by
          rw [List.length_append]
          have : ([82, 50, 49] : List Int).length = 3 := rfl
          omega
        go_wp2_with fail
        refine (cE _).mono ?_
        rintro e w2 ⟨vx, rfl, ox, f2⟩
        obtain ⟨gx, cx, rfl, ox⟩ := ox
        have s2 := f2.size
        go_wp2_with (at_builtin; refine appB _ rfl _ _ rfl w1.heap.size _ _ EL rfl (ho.fr f2) _ _ _ rfl rfl (by simp) ox.reads hle (by omega) ?_; intro v6 w6 hv6 hg6)
        go_roundw
        case rel => exact ⟨k + 1, by omega, by go_num, by rw [← HS.out]; exact hv6, (hf.trans f2).then hg6 ho.blk⟩
        case measure => simp [intOf]; omega
      · rw [List.take_of_length_le (by omega)] at ho
        go_wp2_with fail
        go_ret2
        exact ⟨_, rfl, ho.lower s1, f1.trans hf⟩
end Go.Proofs.YtnekojcgbokhpaaDoor
