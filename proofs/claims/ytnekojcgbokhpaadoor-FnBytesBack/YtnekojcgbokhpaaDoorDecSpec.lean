/-
  Decoded, by the specification.
-/
import Derived.Test.YtnekojcgbokhpaaDoorRev
import Derived.Test.YtnekojcgbokhpaaDoorEvsApp
namespace Go.Proofs.YtnekojcgbokhpaaDoor
open Go.RowKit

/-- The decoding so far. -/
def DS3 (bs : List Int) (es : List Ev) (p : Nat) : Prop := decG bs (300 - es.length) p es = decL bs ∧ es.length ≤ 300
theorem DS3.start {bs : List Int} (h : hdB bs = true) : DS3 bs [] 3 := ⟨by rw [decL, if_pos h]; rfl, by simp⟩
theorem DS3.many {bs : List Int} {es : List Ev} {p : Nat} (h : DS3 bs es p) (hl : es.length = 300) (hp : p < bs.length) : decL bs = (es, 4) := by
  rw [← h.1, hl, decG, if_pos hp]
theorem DS3.fin {bs : List Int} {es : List Ev} {p : Nat} (h : DS3 bs es p) (hp : ¬ p < bs.length) : decL bs = (es, 0) := by
  rw [← h.1]
  cases 300 - es.length with
  | zero => rw [decG, if_neg hp]
  | succ f => rw [decG, if_neg hp]
theorem DS3.err {bs : List Int} {es : List Ev} {p : Nat} {c : Int} (h : DS3 bs es p) (hl : es.length ≠ 300) (hp : p < bs.length) (hr : rdEv bs p = .error c) : decL bs = (es, c) := by
  have := h.2
  obtain ⟨f, hf⟩ : ∃ f, 300 - es.length = f + 1 := ⟨299 - es.length, by omega⟩
  rw [← h.1, hf, decG, if_pos hp, hr]
theorem DS3.step {bs : List Int} {es : List Ev} {p q : Nat} {e : Ev} (h : DS3 bs es p) (hl : es.length ≠ 300) (hp : p < bs.length) (hr : rdEv bs p = .ok (e, q)) : DS3 bs (es ++ [e]) q := by
  have := h.2
  refine ⟨?_, by simp; omega⟩
  obtain ⟨f, hf⟩ : ∃ f, 300 - es.length = f + 1 := ⟨299 - es.length, by omega⟩
  rw [← h.1, hf, decG, if_pos hp, hr]
  simp only []
  congr 1
  simp
  omega
theorem rdEv_le {bs : List Int} (hu : ∀ x ∈ bs, U8 x) {p q : Nat} {e : Ev} (hp : p ≤ bs.length) (h : rdEv bs p = .ok (e, q)) : p < q ∧ q ≤ bs.length := by
  obtain ⟨-, hq, hd⟩ := rdEv_ok hu h
  have := evL_len e
  have hl := congrArg List.length hd
  simp at hl
  omega
theorem hd_no {bs : List Int} (h : bs.length < 3 ∨ bs[0]? ≠ some 82 ∨ bs[1]? ≠ some 50 ∨ bs[2]? ≠ some 49) : hdB bs = false := by
  rw [hdB, decide_eq_false_iff_not]
  intro he
  have h0 : bs[0]? = some 82 := by have := congrArg (fun l => l[0]?) he; simpa using this
  have h1 : bs[1]? = some 50 := by have := congrArg (fun l => l[1]?) he; simpa using this
  have h2 : bs[2]? = some 49 := by have := congrArg (fun l => l[2]?) he; simpa using this
  have hl := congrArg List.length he
  simp at hl
  rcases h with h | h | h | h
  · omega
  · exact h h0
  · exact h h1
  · exact h h2
theorem hd_yes {bs : List Int} (h0 : bs[0]? = some 82) (h1 : bs[1]? = some 50) (h2 : bs[2]? = some 49) : hdB bs = true := by
  match bs, h0, h1, h2 with
  | a :: b :: c :: l, h0, h1, h2 =>
    simp at h0 h1 h2
    subst h0 h1 h2
    simp [hdB]
theorem decL_no {bs : List Int} (h : hdB bs = false) : decL bs = ([], 1) := by rw [decL, h]; rfl

/-- What Decoded answers. -/
def DecC (bs : List Int) (w : World) (x : Ending) (w' : World) : Prop :=
  ∃ v, x = .returned (.tuple #[v, .int .i64 (decL bs).2]) ∧ OwnE w' w.heap.size v (decL bs).1 ∧ Fr w w'
theorem DecC.mk {bs : List Int} {w w' : World} {v : Value} {es : List Ev} {c : Int} (h : decL bs = (es, c)) (ho : OwnE w' w.heap.size v es) (hf : Fr w w') : DecC bs w (.returned (.tuple #[v, .int .i64 c])) w' := by
  refine ⟨v, by rw [h], by rw [h]; exact ho, hf⟩

set_option maxHeartbeats 4000000 in
theorem specDec_any (ao : Option Addr) (n cap : Nat) (bs : List Int) (w : World) (hn : bs.length = n) (h : ReadsB w ao bs) :
    Calls Tryd.prog 13 #[.slice ao n cap] w (DecC bs w) := by
  subst hn
  have hl := h.len
  have hu := h.bd
  have hE := ownE_new w
  have f0 := Fr.alloc w (.cells #[] 49)
  by_cases h3 : bs.length < 3
  · have HD : Hid (decL bs = ([], 1)) := decL_no (hd_no (.inl h3))
    go_enter Tryd.func13, Tryd.ntmps13
    go_wp2_with fail
    go_ret2
    exact DecC.mk HD.out hE f0
  · obtain ⟨b, off, rfl, hc⟩ := (h.fr f0).at_ 0 (by omega)
    have c0 := hc 0 (by omega)
    have c1 := hc 1 (by omega)
    have c2 := hc 2 (by omega)
    rw [getD_at (by omega)] at c0 c1 c2
    have g0 : bs[0]? = some bs[0] := List.getElem?_eq_getElem (by omega)
    have g1 : bs[1]? = some bs[1] := List.getElem?_eq_getElem (by omega)
    have g2 : bs[2]? = some bs[2] := List.getElem?_eq_getElem (by omega)
    obtain ⟨y0, hy0⟩ : ∃ y, y = bs[0] := ⟨_, rfl⟩
    obtain ⟨y1, hy1⟩ : ∃ y, y = bs[1] := ⟨_, rfl⟩
    obtain ⟨y2, hy2⟩ : ∃ y, y = bs[2] := ⟨_, rfl⟩
    rw [← hy0] at c0 g0
    rw [← hy1] at c1 g1
    rw [← hy2] at c2 g2
    rw [Nat.add_zero] at c0
    clear hy0 hy1 hy2 hc
    by_cases hd : y0 = 82 ∧ y1 = 50 ∧ y2 = 49
    · obtain ⟨rfl, rfl, rfl⟩ := hd
      have HS : Hid (DS3 bs [] 3) := DS3.start (hd_yes g0 g1 g2)
      clear g0 g1 g2
      go_enter Tryd.func13, Tryd.ntmps13
      go_wp2_with fail
      clear c0 c1 c2
      go_loopw [4, 5] (fun u i wr => ∃ (es : List Ev) (p : Nat), i = .int .i64 (p : Int) ∧ p ≤ bs.length ∧ OwnE wr w.heap.size u es ∧ Hid (DS3 bs es p) ∧ Fr w wr) (fun _ i _ => bs.length - (intOf i).toNat)
      case atStart => exact ⟨[], 3, rfl, by omega, hE, HS, f0⟩
      case round =>
        obtain ⟨es, p, rfl, hp, ho, HD, hf⟩ := hrel
        clear hE f0 HS
        have hs0 := hf.size
        have he3 := HD.out.2
        obtain ⟨ge, ce, rfl, hoe, hle⟩ := ho
        have ho : OwnE wr w.heap.size (.slice (some ⟨ge, 0, none⟩) es.length ce) es := ⟨ge, ce, rfl, hoe, hle⟩
        clear hoe
        by_cases hlt : p < bs.length
        · by_cases hm : es.length = 300
          · have HE : Hid (decL bs = (es, 4)) := HD.out.many hm hlt
            have hb : ((es.length : Int) == 300) = true := by simp; omega
            clear hm
            go_wp2_with fail
            go_ret2
            exact DecC.mk HE.out ho hf
          · have hb : ((es.length : Int) == 300) = false := by simp; omega
            have cL := l3Read_any (some ⟨b, off, none⟩) bs.length cap bs p wr rfl hp (h.fr hf)
            have HM : Hid (es.length ≠ 300) := hm
            clear hm
            go_wp2_with fail
            refine cL.mono ?_
            rintro x w2 ⟨f2, ⟨e, q, hr, rfl⟩ | ⟨c, y, hr, hcc, rfl⟩⟩
            · have HN : Hid (DS3 bs (es ++ [e]) q) := HD.out.step HM.out hlt hr
              have hq := rdEv_le hu hp hr
              clear hr cL HD
              have ho := ho.fr f2
              have hf := hf.trans f2
              have fe := Fr.alloc w2 (.cells #[.int .i64 e.k, .int .i64 e.g, .int .i64 e.o, .int .i64 e.w, .int .i64 e.l, .int .i64 e.s, .int .i64 e.f, .int .i64 e.t] 49)
              have hC := evC_new (w2.alloc (.cells #[.int .i64 e.k, .int .i64 e.g, .int .i64 e.o, .int .i64 e.w, .int .i64 e.l, .int .i64 e.s, .int .i64 e.f, .int .i64 e.t] 49)) e
              have hs2 := hf.size
              have es1 : (w2.alloc (.cells #[.int .i64 e.k, .int .i64 e.g, .int .i64 e.o, .int .i64 e.w, .int .i64 e.l, .int .i64 e.s, .int .i64 e.f, .int .i64 e.t] 49)).heap.size = w2.heap.size + 1 := by simp
              rw [es1] at hC
              have HC := (show Hid _ from hC)
              have HFE := (show Hid _ from fe.trans (Fr.alloc _ (.cells #[.int .i64 e.k, .int .i64 e.g, .int .i64 e.o, .int .i64 e.w, .int .i64 e.l, .int .i64 e.s, .int .i64 e.f, .int .i64 e.t] 49)))
              clear fe hC es1
              go_wp2_with (at_builtin; refine appE _ rfl _ _ rfl w.heap.size _ es e rfl (ho.fr HFE.out) (w2.heap.size + 1) 1 rfl HC.out (by omega) (by simp; omega) ?_; intro v6 w6 hv6 hg6 hat6)
              go_roundw
              case rel => exact ⟨es ++ [e], q, rfl, hq.2, hv6, HN, (hf.trans HFE.out).then hg6 ho.blk⟩
              case measure => simp [intOf]; omega
            · have HE : Hid (decL bs = (es, c)) := HD.out.err HM.out hlt hr
              clear hr cL HD
              rcases hcc with rfl | rfl
              · go_wp2_with fail
                go_ret2
                exact DecC.mk HE.out (ho.fr (f2.trans (Fr.alloc _ _))) (hf.trans (f2.trans (Fr.alloc _ _)))
              · go_wp2_with fail
                go_ret2
                exact DecC.mk HE.out (ho.fr (f2.trans (Fr.alloc _ _))) (hf.trans (f2.trans (Fr.alloc _ _)))
        · have HE : Hid (decL bs = (es, 0)) := HD.out.fin hlt
          go_wp2_with fail
          go_ret2
          exact DecC.mk HE.out ho hf
    · have HD : Hid (decL bs = ([], 1)) := by
        refine decL_no (hd_no (.inr ?_))
        rw [g0, g1, g2]
        simp only [ne_eq, Option.some.injEq]
        omega
      clear g0 g1 g2
      by_cases d0 : y0 = 82
      · subst d0
        by_cases d1 : y1 = 50
        · subst d1
          have b2 : (y2 != 49) = true := by simp; intro q; exact hd ⟨rfl, rfl, q⟩
          clear hd
          go_enter Tryd.func13, Tryd.ntmps13
          go_wp2_with fail
          go_ret2
          exact DecC.mk HD.out hE f0
        · have b1 : (y1 != 50) = true := by simpa using d1
          clear hd d1
          go_enter Tryd.func13, Tryd.ntmps13
          go_wp2_with fail
          go_ret2
          exact DecC.mk HD.out hE f0
      · have b0 : (y0 != 82) = true := by simpa using d0
        clear hd d0
        go_enter Tryd.func13, Tryd.ntmps13
        go_wp2_with fail
        go_ret2
        exact DecC.mk HD.out hE f0
end Go.Proofs.YtnekojcgbokhpaaDoor
