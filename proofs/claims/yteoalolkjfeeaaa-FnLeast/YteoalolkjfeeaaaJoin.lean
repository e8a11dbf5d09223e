/-
  Chapter 1, joining and ticking clocks: the walks of JoinedClocks and Ticked, of the program and of its specification.
-/
import Derived.Test.YteoalolkjfeeaaaClock
import Derived.Test.YteoalolkjfeeaaaIntsApp
namespace Go.Proofs.Yteoalolkjfeeaaa
open Go.RowKit

theorem l1Max_any (a b : Int) (w : World) :
    Calls Try.prog 53 #[.int .i64 a, .int .i64 b] w fun e w' => e = .returned (.int .i64 (max a b)) ∧ w' = w := by
  by_cases h : b < a
  · go_enter Try.func53, Try.ntmps53
    go_wp2
    go_ret
    exact ⟨ret_int (by omega), rfl⟩
  · go_enter Try.func53, Try.ntmps53
    go_wp2
    go_ret
    exact ⟨ret_int (by omega), rfl⟩

/-- The list without noughts at its end. -/
def tr (l : List Int) : List Int := (l.reverse.dropWhile (fun x => x == 0)).reverse

theorem tr_zero (l : List Int) : tr (l ++ [0]) = tr l := by simp [tr]
theorem tr_more (l : List Int) (x : Int) (h : x ≠ 0) : tr (l ++ [x]) = l ++ [x] := by simp [tr, h]
theorem tr_nil : tr [] = [] := rfl

set_option maxHeartbeats 400000 in
theorem l1Trim_any (g n cap base : Nat) (xs : List Int) (w : World) (hn : xs.length = n) (h : OwnI w base (.slice (some ⟨g, 0, none⟩) n cap) xs) :
    Calls Try.prog 54 #[.slice (some ⟨g, 0, none⟩) n cap] w fun e w' => ∃ v, e = .returned v ∧ OwnS w' w.heap.size v (tr xs) ∧ Fr w w' := by
  subst hn
  have hr := h.reads
  have hl := hr.len
  have hcap : xs.length ≤ cap := by
    rcases h.1.2 with ⟨e, _⟩ | ⟨g', c', cur, e, _, _, h4, _⟩
    · simp at e
    · simp at e; omega
  go_enter Try.func54, Try.ntmps54
  go_wp2
  go_loop [3] (fun i => ∃ k : Nat, k ≤ xs.length ∧ i = .int .i64 k ∧ Hid (tr xs = tr (xs.take k))) (fun i => (intOf i).toNat)
  case atStart => exact ⟨xs.length, Nat.le_refl _, rfl, by rw [List.take_length]; rfl⟩
  case round =>
    obtain ⟨k, hk, rfl, HT⟩ := hrel
    have fin : ∀ (Z : List Int), Z = xs.take k → tr xs = Z → Reads (w.alloc (.cells #[] 2)) (some ⟨g, 0, none⟩) Z := by
      rintro Z rfl -
      refine Reads.fr ⟨by simp; omega, fun x hx => hr.bd x (List.mem_of_mem_take hx), fun i hi => ⟨g, 0, rfl, fun j hj => ?_⟩⟩ (Fr.alloc _ _)
      have hjk : j < k := by simp at hj; omega
      obtain ⟨b, off, e, hc⟩ := hr.at_ j (by omega)
      simp only [Option.some.injEq, Addr.mk.injEq, and_true] at e
      obtain ⟨rfl, rfl⟩ := e
      rw [hc j (by omega)]
      simp [List.getD, hjk]
    by_cases h0 : k = 0
    · subst h0
      have e : tr xs = [] := HT.out
      have hd := fin [] (by simp) e
      have HE : Hid (tr xs = []) := e
      clear e fin h hr
      go_wp2_with (at_builtin; refine appI _ rfl _ _ rfl w.heap.size _ [] [] rfl (own_empty w _ (Nat.le_refl _)) _ _ _ rfl rfl (by simp) hd (by simp) (by simp) ?_; intro v1 w1 hv1 hg1)
      go_ret
      refine ⟨v1, rfl, ?_, (Fr.alloc w _).then hg1 (own_empty w w.heap.size (Nat.le_refl _)).blk⟩
      rw [HE.out]
      exact hv1
    · have hc := h.1.cellAt (k - 1) (by omega)
      have hlt : k - 1 < xs.length := by omega
      rw [List.getElem?_map, List.getElem?_eq_getElem hlt] at hc
      have ht : xs.take k = xs.take (k - 1) ++ [xs[k - 1]] := by
        rw [← List.take_succ_eq_append_getElem hlt]; congr 1; omega
      obtain ⟨z, hz⟩ : ∃ z, z = xs[k - 1] := ⟨_, rfl⟩
      rw [← hz] at hc ht
      simp only [Option.map_some] at hc
      have HX : Hid (xs.take k = xs.take (k - 1) ++ [z]) := ht
      clear hz ht
      by_cases hzz : z = 0
      · have hb : (z == 0) = true := by simp [hzz]
        have HZZ : Hid (z = 0) := hzz
        clear hzz fin
        go_wp2_with fail
        go_round
        case rel => exact ⟨k - 1, by omega, by go_num, by rw [HT.out, HX.out, HZZ.out, tr_zero]; rfl⟩
        case measure => simp [intOf]; omega
      · have hb : (z == 0) = false := by simp [hzz]
        have e : tr xs = xs.take k := by rw [HT.out, HX.out, tr_more _ _ hzz]
        have hd := fin _ rfl e
        have hlk : (xs.take k).length = k := by simp; omega
        have HE : Hid (tr xs = xs.take k) := e
        clear e fin hzz h hr
        obtain ⟨Z, hZ⟩ : ∃ Z, Z = xs.take k := ⟨_, rfl⟩
        rw [← hZ] at hd hlk
        have HZ : Hid (Z = xs.take k) := hZ
        clear hZ
        go_wp2_with (at_builtin; refine appI _ rfl _ _ rfl w.heap.size _ [] Z rfl (own_empty w _ (Nat.le_refl _)) _ _ _ rfl hlk (by simp) hd (by simp; omega) (by simp) ?_; intro v1 w1 hv1 hg1)
        go_ret
        refine ⟨v1, rfl, ?_, (Fr.alloc w _).then hg1 (own_empty w w.heap.size (Nat.le_refl _)).blk⟩
        rw [HE.out, ← HZ.out]
        exact hv1

/-- At each of the sixteen places the greater one. -/
def jl (xs ys : List Int) (k : Nat) : List Int := (List.range k).map fun i => max (xs.getD i 0) (ys.getD i 0)

theorem jl_length (xs ys : List Int) (k : Nat) : (jl xs ys k).length = k := by simp [jl]
theorem jl_succ (xs ys : List Int) (k : Nat) : jl xs ys k ++ [max (xs.getD k 0) (ys.getD k 0)] = jl xs ys (k + 1) := by simp [jl, List.range_succ]

theorem I64.max {a b : Int} (ha : I64 a) (hb : I64 b) : I64 (Max.max a b) := by
  obtain ⟨h1, h2⟩ := ha
  obtain ⟨h3, h4⟩ := hb
  exact ⟨by omega, by omega⟩

set_option maxHeartbeats 400000 in
theorem l1Join_any (ao bo : Option Addr) (n m c d : Nat) (xs ys : List Int) (w : World) (hn : xs.length = n) (hm : ys.length = m) (h : Reads w ao xs) (h' : Reads w bo ys) :
    Calls Try.prog 46 #[.slice ao n c, .slice bo m d] w fun e w' => ∃ v, e = .returned v ∧ OwnS w' w.heap.size v (tr (jl xs ys 16)) ∧ Fr w w' := by
  subst hn hm
  go_enter Try.func46, Try.ntmps46
  go_wp2_with fail
  go_loopw [5, 6] (fun v i wr => ∃ k : Nat, k ≤ 16 ∧ i = .int .i64 k ∧ OwnS wr w.heap.size v (jl xs ys k) ∧ Fr w wr) (fun _ i _ => 16 - (intOf i).toNat)
  case atStart => exact ⟨0, by omega, rfl, own_empty w _ (Nat.le_refl _), Fr.alloc _ _⟩
  case round =>
    rename_i v _
    obtain ⟨k, hk, rfl, ho, hf⟩ := hrel
    by_cases hlt : k < 16
    · have b1 := h.bdAt k
      have b2 := h'.bdAt k
      have hs := hf.size
      have q1 := l1Of_any ao xs.length c xs (k : Int) wr rfl (h.fr hf)
      have q2 := l1Of_any bo ys.length d ys (k : Int) wr rfl (h'.fr hf)
      have js := jl_succ xs ys k
      rw [ofL_nat] at q1 q2
      obtain ⟨z, hz⟩ : ∃ z, z = xs.getD k 0 := ⟨_, rfl⟩
      obtain ⟨y, hy⟩ : ∃ y, y = ys.getD k 0 := ⟨_, rfl⟩
      rw [← hz] at q1 b1 js
      rw [← hy] at q2 b2 js
      have HJ : Hid (jl xs ys k ++ [max z y] = jl xs ys (k + 1)) := js
      have hm := reads_one wr _ (b1.max b2)
      have hle : (jl xs ys k).length + [max z y].length ≤ 4294967296 := by rw [jl_length]; simp; omega
      clear hz hy js b1 b2
      go_wp2_with fail
      refine (q1).mono ?_
      rintro e w1 ⟨rfl, rfl⟩
      go_wp2_with fail
      refine (q2).mono ?_
      rintro e w2 ⟨rfl, rfl⟩
      go_wp2_with fail
      refine (l1Max_any _ _ _).mono ?_
      rintro e w3 ⟨rfl, rfl⟩
      clear q1 q2
      obtain ⟨u, hu⟩ : ∃ u, u = max z y := ⟨_, rfl⟩
      rw [← hu] at hm hle
      have HJ' : Hid (jl xs ys k ++ [u] = jl xs ys (k + 1)) := by rw [hu]; exact HJ
      simp only [← hu]
      clear HJ hu
      go_wp2_with (at_builtin; refine appI _ rfl _ _ rfl w.heap.size _ (jl xs ys k) [u] rfl (ho.fr (Fr.alloc _ _)) _ _ _ rfl rfl (by simp) hm hle (by simp; omega) ?_; intro v1 w4 hv1 hg1)
      go_roundw
      case rel => exact ⟨k + 1, by omega, by go_num, by rw [← HJ'.out]; exact hv1, (hf.trans (Fr.alloc _ _)).then hg1 ho.blk⟩
      case measure => simp [intOf]; omega
    · have e : k = 16 := by omega
      subst e
      have hs := hf.size
      obtain ⟨g, cap, rfl, hoo⟩ := ho
      go_wp2_with fail
      refine (l1Trim_any g _ cap w.heap.size _ _ rfl hoo).mono ?_
      rintro e w1 ⟨v1, rfl, ov, fv⟩
      go_wp2_with fail
      go_ret
      exact ⟨v1, rfl, ov.lower hs, hf.trans fv⟩
end Go.Proofs.Yteoalolkjfeeaaa
