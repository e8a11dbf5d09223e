/-
  Pack BG: SpRace2, SpRace3, SpRace4, Revs.
-/
import Derived.Test.YtcofhmikdkkigaaGreatDoorPrBF
import Derived.Test.YtcofhmikdkkigaaGreatDoorPrBD
import Derived.Shelf.SlicesQ.Reverse
import Derived.Ground.SlgnProg
import Derived.Sort.OwnSortedInts
namespace Go.Proofs.YtcofhmikdkkigaaGreatDoor
open Go.RowKit

def bytF (es : List Ev) (lk : List Bool) (near : Bool) (j i p : Nat) : Bool := (List.range (evA es i).s.toNat).any fun n => decide (p ≤ n) && (covB (evA es j) ((evA es i).l + n) && lasB es j i ((evA es i).l + n) && (!near || nexB es lk j i ((evA es i).l + n)))
theorem bytF_zero (es : List Ev) (lk : List Bool) (near : Bool) (j i : Nat) : bytF es lk near j i 0 = bytB es lk near j i := by
  unfold bytF bytB
  simp only [Nat.zero_le, decide_true, Bool.true_and]
theorem bytF_step {es : List Ev} {lk : List Bool} {near : Bool} {j i p : Nat} (h : p < (evA es i).s.toNat) : bytF es lk near j i p = ((covB (evA es j) ((evA es i).l + p) && lasB es j i ((evA es i).l + p) && (!near || nexB es lk j i ((evA es i).l + p))) || bytF es lk near j i (p + 1)) := any_step h fun n => covB (evA es j) ((evA es i).l + n) && lasB es j i ((evA es i).l + n) && (!near || nexB es lk j i ((evA es i).l + n))
theorem bytF_top (es : List Ev) (lk : List Bool) (near : Bool) (j i : Nat) : bytF es lk near j i (evA es i).s.toNat = false := any_top _ fun n => covB (evA es j) ((evA es i).l + n) && lasB es j i ((evA es i).l + n) && (!near || nexB es lk j i ((evA es i).l + n))

set_option maxRecDepth 20000 in
set_option maxHeartbeats 8000000 in
theorem l8Byte_any (ao : Option Addr) (n c : Nat) (lo : Option Addr) (m lc i j : Nat) (near : Bool) (es : List Ev) (lk : List Bool) (w : World) (hn : es.length = n) (h : ReadsE w ao es) (hm : lk.length = m) (hL : ReadsG layBo w lo lk) (hm2 : m ≤ 16777216) (hij : i < j) (hj : j < n) (hl : n ≤ 300) (hacc : accB (evA es i) = true) :
    Calls Tryz.prog 135 #[.slice ao n c, .slice lo m lc, .int .i64 i, .int .i64 j, .bool near] w fun y w' => y = .returned (.bool (bytB es lk near j i)) ∧ Fr w w' := by
  subst hn
  obtain ⟨eb, off, rfl, hci⟩ := h.at_ i (by omega)
  have hcj := hci j hj
  have hci := hci i (by omega)
  have hii : (i : Int) < es.length := by omega
  have hji : (j : Int) < es.length := by omega
  have sa := acc_size hacc
  have la := acc_lies hacc
  have HB : Hid (bytB es lk near j i = bytF es lk near j i 0) := (bytF_zero _ _ _ _ _).symm
  have HS : Hid (∀ p, p < (evA es i).s.toNat → bytF es lk near j i p = ((covB (evA es j) ((evA es i).l + p) && lasB es j i ((evA es i).l + p) && (!near || nexB es lk j i ((evA es i).l + p))) || bytF es lk near j i (p + 1))) := fun p hp => bytF_step hp
  have HTOP : Hid (bytF es lk near j i (evA es i).s.toNat = false) := bytF_top _ _ _ _ _
  obtain ⟨B, hB⟩ : ∃ B, B = bytB es lk near j i := ⟨_, rfl⟩
  rw [← hB] at HB ⊢
  clear hB
  have cC := fun x u => specCov_any es[j] x u
  have cL := fun x u (f : Fr w u) => l8Lasts_any (some ⟨eb, off, none⟩) es.length c i j es x u rfl (h.fr f) hij (by omega) hl
  have cN := fun x u (f : Fr w u) => l8Next_any (some ⟨eb, off, none⟩) es.length c lo m lc i j es lk x u rfl (h.fr f) hm (hL.fr f) hm2 hij (by omega) hl
  rw [evA_at (show i < es.length by omega)] at sa la HS HTOP
  rw [evA_at hj] at HS
  obtain ⟨Ej, hEj⟩ : ∃ E, E = es[j] := ⟨_, rfl⟩
  rw [← hEj] at hcj HS
  simp only [← hEj] at cC
  obtain ⟨Ei, hEi⟩ : ∃ E, E = es[i] := ⟨_, rfl⟩
  rw [← hEi] at hci HS HTOP sa la
  obtain ⟨cv, hcv⟩ : ∃ f : Int → Bool, ∀ x, covB Ej x = f x := ⟨_, fun _ => rfl⟩
  obtain ⟨ls, hls⟩ : ∃ f : Int → Bool, ∀ x, lasB es j i x = f x := ⟨_, fun _ => rfl⟩
  obtain ⟨nx, hnx⟩ : ∃ f : Int → Bool, ∀ x, nexB es lk j i x = f x := ⟨_, fun _ => rfl⟩
  obtain ⟨bf, hbf⟩ : ∃ f : Nat → Bool, ∀ p, bytF es lk near j i p = f p := ⟨_, fun _ => rfl⟩
  simp only [hcv, hls, hnx, hbf] at HS HTOP HB
  simp only [hcv] at cC
  simp only [hls] at cL
  simp only [hnx] at cN
  clear hcv hls hnx hbf hEi hEj hacc hL hm2 hij hj hl h hm
  obtain ⟨ki, gi, oi, wii, li, si, fi, ti⟩ := Ei
  obtain ⟨k, gr, o, wi, l, sz, f, t⟩ := Ej
  simp only at cC sa la HS HTOP
  obtain ⟨S, hS⟩ : ∃ S : Nat, si = S := ⟨si.toNat, by omega⟩
  subst hS
  simp only [Int.toNat_natCast] at HS HTOP
  have HCi : Hid (∀ u, Fr w u → u.cell? ⟨eb, off + i * 8 + 4, none⟩ = some (.int .i64 li) ∧ u.cell? ⟨eb, off + i * 8 + 5, none⟩ = some (.int .i64 S)) := fun u fu => by
    have ev := hci.keep fu (by simp)
    obtain ⟨-, -, -, -, d4, d5, -⟩ := ev
    exact ⟨d4, d5⟩
  have HCj : Hid (∀ u, Fr w u → u.cell? ⟨eb, off + j * 8, none⟩ = some (.int .i64 k) ∧ u.cell? ⟨eb, off + j * 8 + 1, none⟩ = some (.int .i64 gr) ∧ u.cell? ⟨eb, off + j * 8 + 2, none⟩ = some (.int .i64 o) ∧ u.cell? ⟨eb, off + j * 8 + 3, none⟩ = some (.int .i64 wi) ∧ u.cell? ⟨eb, off + j * 8 + 4, none⟩ = some (.int .i64 l) ∧ u.cell? ⟨eb, off + j * 8 + 5, none⟩ = some (.int .i64 sz) ∧ u.cell? ⟨eb, off + j * 8 + 6, none⟩ = some (.int .i64 f) ∧ u.cell? ⟨eb, off + j * 8 + 7, none⟩ = some (.int .i64 t)) := fun u fu => by
    have ev := hcj.keep fu (by simp)
    obtain ⟨d0, d1, d2, d3, d4, d5, d6, d7⟩ := ev
    exact ⟨d0, d1, d2, d3, d4, d5, d6, d7⟩
  clear hci hcj
  obtain ⟨b0, b1⟩ := HCi.out w (Fr.refl w)
  have HB0 : Hid ((.int .i64 li : Value) = .int .i64 (li + ((0 : Nat) : Int))) := by simp [Hid]
  have hww : IntKind.i64.wrap (li + S) = li + S := by rw [IntKind.wrap_i64]; omega
  go_enter Tryz.func135, Tryz.ntmps135
  go_wp2_with fail
  clear b0 b1
  go_loopw [11] (fun x wr => ∃ p : Nat, p ≤ S ∧ x = .int .i64 (li + p) ∧ Hid (B = bf p) ∧ Fr w wr) (fun x _ => S - (intOf x - li).toNat)
  case atStart => exact ⟨0, Nat.zero_le _, HB0.out, HB, Fr.refl _⟩
  case round =>
    clear HB HB0
    obtain ⟨p, hp, rfl, HA, hF⟩ := hrel
    obtain ⟨b0, b1⟩ := HCi.out wr hF
    have fD := Fr.drew wr
    have FD := hF.trans fD
    obtain ⟨c0, c1, c2, c3, c4, c5, c6, c7⟩ := HCj.out _ FD
    by_cases hlt : p < S
    · have hcmp : decide (li + (p : Int) < li + (S : Int)) = true := by simp; omega
      have hwp : IntKind.i64.wrap (li + (p : Int) + 1) = li + ((p + 1 : Nat) : Int) := by rw [IntKind.wrap_i64]; omega
      have HT : Hid (B = ((cv (li + p) && ls (li + p) && (!near || nx (li + p))) || bf (p + 1))) := by rw [HA.out]; exact HS.out p hlt
      have k1 := fun u => cC (li + p) u
      have k2 := fun u f => cL (li + p) u f
      have k3 := fun u f => cN (li + p) u f
      obtain ⟨V1, hV1⟩ : ∃ V, V = cv (li + p) := ⟨_, rfl⟩
      obtain ⟨V2, hV2⟩ : ∃ V, V = ls (li + p) := ⟨_, rfl⟩
      obtain ⟨V3, hV3⟩ : ∃ V, V = nx (li + p) := ⟨_, rfl⟩
      rw [← hV1, ← hV2, ← hV3] at HT
      simp only [← hV1] at k1
      simp only [← hV2] at k2
      simp only [← hV3] at k3
      clear hV1 hV2 hV3 cC cL cN HA
      go_wp2_with fail
      go_region
      all_goals
        go_wp2_with fail
        refine (k1 _).mono ?_
        rintro y u1 ⟨rfl, f1⟩
        clear k1 b0 b1 c0 c1 c2 c3 c4 c5 c6 c7
        have F1 := FD.trans f1
        cases V1
        · have HT : Hid (B = bf (p + 1)) := by rw [HT.out]; exact rfl
          go_wp2_with fail
          go_roundw
          case rel => exact ⟨p + 1, by omega, by go_num, HT, F1⟩
          case measure => simp [intOf] <;> omega
        · go_wp2_with fail
          refine (k2 _ F1).mono ?_
          rintro y u2 ⟨rfl, f2⟩
          have F2 := F1.trans f2
          clear k2
          cases V2
          · have HT : Hid (B = bf (p + 1)) := by rw [HT.out]; exact rfl
            go_wp2_with fail
            go_roundw
            case rel => exact ⟨p + 1, by omega, by go_num, HT, F2⟩
            case measure => simp [intOf] <;> omega
          · cases near
            · have HT : Hid (B = true) := by rw [HT.out]; exact rfl
              go_wp2_with fail
              go_ret
              exact ⟨by rw [HT.out]; rfl, F2⟩
            · go_wp2_with fail
              refine (k3 _ F2).mono ?_
              rintro y u3 ⟨rfl, f3⟩
              have F3 := F2.trans f3
              clear k3
              cases V3
              · have HT : Hid (B = bf (p + 1)) := by rw [HT.out]; exact rfl
                go_wp2_with fail
                go_roundw
                case rel => exact ⟨p + 1, by omega, by go_num, HT, F3⟩
                case measure => simp [intOf] <;> omega
              · have HT : Hid (B = true) := by rw [HT.out]; exact rfl
                go_wp2_with fail
                go_ret
                exact ⟨by rw [HT.out]; rfl, F3⟩
    · have e : p = S := by omega
      subst e
      have hcmp : decide (li + (p : Int) < li + (p : Int)) = false := by simp
      have HT : Hid (B = false) := by rw [HA.out]; exact HTOP.out
      clear HA c0 c1 c2 c3 c4 c5 c6 c7
      go_wp2_with fail
      go_region
      all_goals
        go_wp2_with fail
        go_ret
        exact ⟨by rw [HT.out]; rfl, FD⟩

def layPr : Lay (Int × Int) where
  ty := 51
  sz := 2
  cs := fun p => [.int .i64 p.1, .int .i64 p.2]
  pos := by omega
  len _ := rfl
  one x u hu := by
    simp only [List.mem_cons, List.not_mem_nil, or_false] at hu
    rcases hu with rfl | rfl <;> rfl
def hasP (ps : List (Int × Int)) (i j : Int) : Bool := ps.any fun p => p.1 == i && p.2 == j
theorem hasP_iff (ps : List (Int × Int)) (i j : Int) : hasP ps i j = true ↔ (i, j) ∈ ps := by
  unfold hasP
  rw [List.any_eq_true]
  constructor
  · rintro ⟨⟨a, b⟩, h1, h2⟩
    rw [Bool.and_eq_true, beq_iff_eq, beq_iff_eq] at h2
    obtain ⟨rfl, rfl⟩ := h2
    exact h1
  · intro h
    exact ⟨(i, j), h, by simp⟩
set_option maxHeartbeats 2000000 in
theorem l8In_any (ao : Option Addr) (m c : Nat) (ps : List (Int × Int)) (i j : Int) (w : World) (hm : ps.length = m) (h : ReadsG layPr w ao ps) :
    Calls Tryz.prog 88 #[.slice ao m c, .int .i64 i, .int .i64 j] w fun y w' => y = .returned (.bool (hasP ps i j)) ∧ w' = w := by
  subst hm
  have hlen : ps.length ≤ 16777216 := h.len
  obtain ⟨B, hB⟩ : ∃ B, B = hasP ps i j := ⟨_, rfl⟩
  have HB : Hid (B = hasP (ps.drop 0) i j) := hB
  rw [← hB]
  clear hB
  go_enter Tryz.func88, Tryz.ntmps88
  go_wp2_with fail
  go_loopw [7] (fun k wr => ∃ q : Nat, q ≤ ps.length ∧ k = .int .i64 q ∧ Hid (B = hasP (ps.drop q) i j) ∧ wr = w) (fun k _ => ps.length - (intOf k).toNat)
  case atStart => exact ⟨0, Nat.zero_le _, rfl, HB, rfl⟩
  case round =>
    clear HB
    obtain ⟨q, hq, rfl, HA, rfl⟩ := hrel
    by_cases hlt : q < ps.length
    · have hqi : (q : Int) < ps.length := by omega
      obtain ⟨b, off, rfl, hc⟩ := h.at_ q hlt
      have d0 := hc q hlt 0 (by show 0 < 2; omega)
      have d1 := hc q hlt 1 (by show 1 < 2; omega)
      have HT : Hid (B = ((ps[q].1 == i && ps[q].2 == j) || hasP (ps.drop (q + 1)) i j)) := by
        rw [HA.out, List.drop_eq_getElem_cons hlt]
        exact rfl
      obtain ⟨⟨x, y⟩, hxy⟩ : ∃ p, p = ps[q] := ⟨_, rfl⟩
      rw [← hxy] at d0 d1 HT
      clear hxy HA hc
      have d0 : wr.cell? ⟨b, off + q * 2, none⟩ = some (.int .i64 x) := d0
      have d1 : wr.cell? ⟨b, off + q * 2 + 1, none⟩ = some (.int .i64 y) := d1
      rcases (Decidable.em (x = i)).symm with hx | hx
      · have hxb : (x == i) = false := by simpa using hx
        have HT : Hid (B = hasP (ps.drop (q + 1)) i j) := by rw [HT.out]; simp only; rw [hxb]; exact rfl
        clear hx
        go_wp2_with fail
        go_roundw
        case rel => exact ⟨q + 1, by omega, by go_num, HT, by trivial⟩
        case measure => simp [intOf] <;> omega
      · subst hx
        have hxb : (x == x) = true := by simp
        rcases (Decidable.em (y = j)).symm with hy | hy
        · have hyb : (y == j) = false := by simpa using hy
          have HT : Hid (B = hasP (ps.drop (q + 1)) x j) := by rw [HT.out]; simp only; rw [hxb, hyb]; exact rfl
          clear hy
          go_wp2_with fail
          go_roundw
          case rel => exact ⟨q + 1, by omega, by go_num, HT, by trivial⟩
          case measure => simp [intOf] <;> omega
        · subst hy
          have hyb : (y == y) = true := by simp
          have HT : Hid (B = true) := by rw [HT.out]; simp only; rw [hxb, hyb]; exact rfl
          go_wp2_with fail
          go_ret
          exact ⟨by rw [HT.out]; rfl, rfl⟩
    · have e : q = ps.length := by omega
      subst e
      have HT : Hid (B = false) := by rw [HA.out, List.drop_length]; exact rfl
      clear HA
      go_wp2_with fail
      go_ret
      exact ⟨by rw [HT.out]; rfl, rfl⟩
end Go.Proofs.YtcofhmikdkkigaaGreatDoor
namespace Go.Proofs.YtcofhmikdkkigaaGreatDoor
open Go.RowKit

theorem ReadsE.keepS {S : Nat → Prop} {w w' : World} {ao : Option Addr} {es : List Ev} (h : ReadsE w ao es) (k : FrS S w w') (hs : ∀ b, blk ao = some b → ¬ S b) : ReadsE w' ao es := by
  refine ⟨h.len, fun i hi => ?_⟩
  obtain ⟨b, off, e, hc⟩ := h.at_ i hi
  exact ⟨b, off, e, fun j hj => (hc j hj).keepS k (hs b (by rw [e]; rfl))⟩
theorem FrS.then2 {S : Nat → Prop} {a b c : World} {row : Option Nat} (h : FrS S a b) (k : b.grownBy c row) (hr : ∀ j, row = some j → S j ∨ a.heap.size ≤ j) : FrS S a c :=
  ⟨k.os.trans h.os, k.tape.trans h.tape, k.output.trans h.output, Nat.le_trans h.size k.size, fun i hi hn => (k.block i (Nat.lt_of_lt_of_le hi h.size) (fun e => by
    rcases hr i e.symm with q | q
    · exact hn q
    · omega)).trans (h.block i hi hn)⟩
theorem infoPr : (Tryz.prog.info? 51).map (fun i => (i.zero, i.size, i.bytes)) = some (some (.agg #[.int .i64 0, .int .i64 0]), 2, 16) := by kernel_rfl
noncomputable def pairsP (es : List Ev) (lk : List Bool) (near : Bool) (j p : Nat) : List (Int × Int) := ((List.range p).filter fun i => pairB es lk near j i).map fun i : Nat => ((i : Int), (j : Int))
theorem pairsP_succ (es : List Ev) (lk : List Bool) (near : Bool) (j p : Nat) : pairsP es lk near j (p + 1) = if pairB es lk near j p = true then pairsP es lk near j p ++ [((p : Int), (j : Int))] else pairsP es lk near j p := by
  unfold pairsP
  rw [List.range_succ, List.filter_append, List.map_append]
  cases h : pairB es lk near j p <;> simp [h]
theorem pairsP_len (es : List Ev) (lk : List Bool) (near : Bool) (j p : Nat) : (pairsP es lk near j p).length ≤ p := by
  unfold pairsP
  rw [List.length_map]
  have := List.length_filter_le (fun i => pairB es lk near j i) (List.range p)
  simpa using this
theorem pairsL_len (es : List Ev) (lk : List Bool) (near : Bool) : ∀ k : Nat, k ≤ 300 → (pairsL es lk near k).length ≤ 300 * k
  | 0, _ => by simp [pairsL]
  | k + 1, h => by
    have ih := pairsL_len es lk near k (by omega)
    have := pairsP_len es lk near k k
    rw [pairsL, List.length_append]
    have e : pairsJ es lk near k = pairsP es lk near k k := rfl
    rw [e]
    omega
theorem cla_acc {a b : Ev} (h : claB a b = true) : accB a = true := by
  simp only [claB, Bool.and_eq_true] at h
  exact h.1.1.1.1.1

set_option maxRecDepth 20000 in
set_option maxHeartbeats 8000000 in
theorem l8Pairs_any (gb off n c : Nat) (lo : Option Addr) (m lc : Nat) (near : Bool) (es : List Ev) (lk : List Bool) (w : World) (hn : es.length = n) (hnc : n ≤ c) (h : ReadsE w (some ⟨gb, off, none⟩) es) (hm : lk.length = m) (hL : ReadsG layBo w lo lk) (hm2 : m ≤ 16777216) :
    Calls Tryz.prog 78 #[.slice (some ⟨gb, off, none⟩) n c, .slice lo m lc, .bool near] w fun x w' => ∃ v, x = .returned v ∧ OwnG layPr w' w.heap.size v (pairsL (lpL es) lk near (lpL es).length) ∧ Fr w w' := by
  have f0 := Fr.alloc w (.cells #[] 51)
  have o0 := ownG_new layPr w w.heap.size (Nat.le_refl _)
  have o0 : OwnG layPr (w.alloc (.cells #[] 51)) w.heap.size (.slice (some ⟨w.heap.size, 0, none⟩) 0 0) [] := o0
  have cP := l5Part_any gb off n c es _ hn hnc (h.fr f0)
  have hK := lpL_300 es
  have hkk : KindsOk (lpL es) := fun j hj => lpL_kinds j hj (lpL_bef hj).1
  have HBF : Hid (∀ j, j < (lpL es).length → befN (edgeT (lpL es) (tssL (lpL es) (lpL es).length)) j = befN (eE (lpL es)) j) := fun j hj => by
    obtain ⟨h1, h2, h3, h4, h5⟩ := lpL_leg (lpL_bef hj).1
    exact befN_legal (lpL_300 es) h3 hj
  obtain ⟨ls, hls⟩ : ∃ ls, ls = lpL es := ⟨_, rfl⟩
  simp only [← hls] at cP hK HBF hkk
  rw [← hls]
  clear hls h hn hnc
  have cB := fun g u c (f : ReadsE u (some ⟨g, 0, none⟩) ls) => l7Before_any (some ⟨g, 0, none⟩) ls.length c ls u rfl f hK hkk
  obtain ⟨bf, hbf⟩ : ∃ bf, bf = befN (edgeT ls (tssL ls ls.length)) := ⟨_, rfl⟩
  simp only [← hbf] at cB HBF
  clear hbf hkk
  have hz0 : (w.alloc (.cells #[] 51)).heap.size = w.heap.size + 1 := by simp
  rw [hz0] at cP
  go_enter Tryz.func78, Tryz.ntmps78
  go_wp2_with fail
  refine (cP).mono ?_
  rintro e u1 ⟨v1, rfl, o1, f1⟩
  obtain ⟨g1, c1, rfl, o1, hl1⟩ := o1
  have r1 := own_readsE o1 hl1
  have t1 := o1.lt g1 rfl
  clear cP o1 hl1
  have cB := cB g1 _ c1 r1
  go_wp2_with fail
  refine cB.mono ?_
  rintro x u3 ⟨v3, rfl, ⟨sls, hsl, R3⟩, f3⟩
  clear cB
  obtain ⟨ag, ac, rfl, -, -⟩ := id R3.own
  have hag := R3.own.lt ag rfl
  have hagb := R3.own.blk ag rfl
  rw [hsl] at R3 ⊢
  have hz1 := f1.size
  rw [hz0] at hz1
  have hz3 := f3.size
  have HR : Hid (∀ u, FrS (fun x => x = w.heap.size) u3 u → ∀ j, j < ls.length → ∃ b bc, u.cell? ⟨ag, j, none⟩ = some (.slice (some ⟨b, 0, none⟩) ls.length bc) ∧ ∀ i, i < ls.length → u.cell? ⟨b, i, none⟩ = some (.bool ((befN (eE ls) j).testBit i))) := fun u fu j hj => by
    obtain ⟨b, bc, q1, q2, q3, q4⟩ := R3.row3 hsl (j := j) hj
    rw [HBF.out j hj] at q2
    exact ⟨b, bc, fu.cell q1 (by simp only; omega), fun i hi => fu.cell (q2 i hi) (by simp only; omega)⟩
  have HEv : Hid (∀ u, FrS (fun x => x = w.heap.size) u3 u → ReadsE u (some ⟨g1, 0, none⟩) ls) := fun u fu => (r1.fr f3).keepS fu (fun b hb => by simp only [blk, Option.map_some, Option.some.injEq] at hb; omega)
  have F3 := (f0.trans f1).trans f3
  have o3 := (o0.fr f1).fr f3
  have HW : Hid (w.heap.size + 1 ≤ u3.heap.size) := by show _ ≤ _; omega
  have HLk : Hid (∀ u, Fr w u → ReadsG layBo u lo lk) := fun u f => hL.fr f
  clear R3 r1 HBF f0 f1 f3 o0 hag hagb hz0 hz1 hz3 t1 hsl hL
  go_wp2_with fail
  go_loopw [7, 10] (fun v j wr => ∃ k : Nat, k ≤ ls.length ∧ j = .int .i64 k ∧ OwnG layPr wr w.heap.size v (pairsL ls lk near k) ∧ FrS (fun x => x = w.heap.size) u3 wr ∧ (∀ b, v.ownBlock = some b → b = w.heap.size ∨ u3.heap.size ≤ b) ∧ Fr w wr) (fun _ j _ => ls.length - (intOf j).toNat)
  case atStart => exact ⟨0, Nat.zero_le _, rfl, o3, FrS.refl _ _, fun b hb => by simp only [Value.ownBlock, Option.some.injEq] at hb; exact .inl hb.symm, F3⟩
  case round =>
    clear o3 F3
    obtain ⟨k, hk, rfl, oV, hS, hO, hF⟩ := hrel
    by_cases hlt : k < ls.length
    · have hki : (k : Int) < ls.length := by omega
      have oV0 : OwnG layPr wr w.heap.size u7 (pairsL ls lk near k ++ pairsP ls lk near k 0) := by
        have e : pairsP ls lk near k 0 = [] := rfl
        rw [e, List.append_nil]
        exact oV
      have oV0 : Hid _ := oV0
      have hS : Hid _ := hS
      have hO : Hid _ := hO
      clear oV
      go_wp2_with fail
      go_loopw [7, 11] (fun v i wq => ∃ p : Nat, p ≤ k ∧ i = .int .i64 p ∧ OwnG layPr wq w.heap.size v (pairsL ls lk near k ++ pairsP ls lk near k p) ∧ FrS (fun x => x = w.heap.size) u3 wq ∧ (∀ b, v.ownBlock = some b → b = w.heap.size ∨ u3.heap.size ≤ b) ∧ Fr w wq) (fun _ i _ => k - (intOf i).toNat)
      case atStart => exact ⟨0, Nat.zero_le _, rfl, oV0.out, hS.out, hO.out, hF⟩
      case round =>
        clear oV0 hS hO hF
        obtain ⟨p, hp, rfl, oV, hS, hO, hF⟩ := hrel
        by_cases hlp : p < k
        · have hpi : (p : Int) < k := by omega
          have hpl : (p : Int) < ls.length := by omega
          have HT : Hid (pairsP ls lk near k (p + 1) = if pairB ls lk near k p = true then pairsP ls lk near k p ++ [((p : Int), (k : Int))] else pairsP ls lk near k p) := pairsP_succ _ _ _ _ _
          have HPB : Hid (pairB ls lk near k p = ((!near || lk.getD p false) && claB (evA ls p) (evA ls k) && !(befN (eE ls) k).testBit p && bytB ls lk near k p)) := rfl
          rw [evA_at (show p < ls.length by omega), evA_at hlt] at HPB
          -- is the event looked at, where that is asked?
          by_cases hskip : (near && !(lk.getD p false)) = true
          · have hpb : pairB ls lk near k p = false := by
              rw [HPB.out]
              simp only [Bool.and_eq_true, Bool.not_eq_true'] at hskip
              rw [hskip.1, hskip.2]
              simp
            have HT : Hid (pairsP ls lk near k (p + 1) = pairsP ls lk near k p) := by rw [HT.out, if_neg (by rw [hpb]; simp)]; exact rfl
            have hnear : near = true := by simp only [Bool.and_eq_true] at hskip; exact hskip.1
            have hlkp : lk.getD p false = false := by simp only [Bool.and_eq_true, Bool.not_eq_true'] at hskip; exact hskip.2
            subst hnear
            clear HPB hpb hskip
            by_cases hpm : p < lk.length
            · have hpm2 : (p : Int) < m := by omega
              have hge : decide ((p : Int) ≥ (m : Int)) = false := by simp; omega
              obtain ⟨lb, loff, rfl, hb⟩ := bo_cell (HLk.out _ hF) hpm
              rw [hlkp] at hb
              go_wp2_with fail
              go_roundw
              case rel => exact ⟨p + 1, by omega, by go_num, by rw [HT.out]; exact oV, hS, hO, hF⟩
              case measure => simp [intOf] <;> omega
            · have hpm2 : (m : Int) ≤ p := by omega
              have hge : decide ((p : Int) ≥ (m : Int)) = true := by simp; omega
              go_wp2_with fail
              go_roundw
              case rel => exact ⟨p + 1, by omega, by go_num, by rw [HT.out]; exact oV, hS, hO, hF⟩
              case measure => simp [intOf] <;> omega
          · have hpass : near = false ∨ (near = true ∧ lk.getD p false = true) := by
              cases near
              · exact .inl rfl
              · right
                refine ⟨rfl, ?_⟩
                cases hb : lk.getD p false
                · rw [hb] at hskip
                  simp at hskip
                · rfl
            have hpb : pairB ls lk near k p = (claB ls[p] ls[k] && !(befN (eE ls) k).testBit p && bytB ls lk near k p) := by
              rw [HPB.out]
              rcases hpass with q | ⟨q1, q2⟩
              · rw [q]
                simp
              · rw [q2]
                simp
            rw [hpb] at HT
            clear hpb HPB hskip
            have hRE := HEv.out wr hS
            obtain ⟨bb, off2, e0, hc⟩ := hRE.at_ p (by omega)
            simp only [Option.some.injEq, Addr.mk.injEq, and_true] at e0
            obtain ⟨rfl, rfl⟩ := e0
            have evp := hc p (by omega)
            have evk := hc k hlt
            obtain ⟨rb, rbc, hcell, hrow⟩ := HR.out wr hS k hlt
            have hbit := hrow p (by omega)
            have hcl := fun u => specCla_any ls[p] ls[k] u
            have hby : claB ls[p] ls[k] = true → ∀ u, Fr wr u → Calls Tryz.prog 135 #[.slice (some ⟨g1, 0, none⟩) ls.length c1, .slice lo m lc, .int .i64 p, .int .i64 k, .bool near] u fun y w' => y = .returned (.bool (bytB ls lk near k p)) ∧ Fr u w' := fun q u f =>
              l8Byte_any (some ⟨g1, 0, none⟩) ls.length c1 lo m lc p k near ls lk u rfl (hRE.fr f) hm (HLk.out u (hF.trans f)) hm2 hlp hlt hK (by rw [evA_at (by omega)]; exact cla_acc q)
            obtain ⟨C, hC⟩ : ∃ C, C = claB ls[p] ls[k] := ⟨_, rfl⟩
            obtain ⟨T, hT⟩ : ∃ C, C = (befN (eE ls) k).testBit p := ⟨_, rfl⟩
            obtain ⟨Y, hY⟩ : ∃ C, C = bytB ls lk near k p := ⟨_, rfl⟩
            simp only [← hC] at hcl hby HT
            rw [← hT] at hbit HT
            simp only [← hY] at hby HT
            clear hT hY hC hc hrow
            obtain ⟨Ep, hEp⟩ : ∃ E, E = ls[p] := ⟨_, rfl⟩
            obtain ⟨Ek, hEk⟩ : ∃ E, E = ls[k] := ⟨_, rfl⟩
            rw [← hEp] at evp
            rw [← hEk] at evk
            simp only [← hEp, ← hEk] at hcl
            clear hEp hEk
            obtain ⟨pk, pg, po, pw, pl, ps, pf, pt⟩ := Ep
            obtain ⟨qk, qg, qo, qw, ql, qs, qf, qt⟩ := Ek
            obtain ⟨p0, p1, p2, p3, p4, p5, p6, p7⟩ := evp
            obtain ⟨q0, q1, q2, q3, q4, q5, q6, q7⟩ := evk
            simp only [Nat.zero_add] at p0 p1 p2 p3 p4 p5 p6 p7 q0 q1 q2 q3 q4 q5 q6 q7 hcl
            have xp0 : ∀ s : Later wr, s.u.cell? ⟨g1, p * 8, none⟩ = some (.int .i64 pk) := fun s => s.fr.cell p0
            have xp1 : ∀ s : Later wr, s.u.cell? ⟨g1, p * 8 + 1, none⟩ = some (.int .i64 pg) := fun s => s.fr.cell p1
            have xp2 : ∀ s : Later wr, s.u.cell? ⟨g1, p * 8 + 2, none⟩ = some (.int .i64 po) := fun s => s.fr.cell p2
            have xp3 : ∀ s : Later wr, s.u.cell? ⟨g1, p * 8 + 3, none⟩ = some (.int .i64 pw) := fun s => s.fr.cell p3
            have xp4 : ∀ s : Later wr, s.u.cell? ⟨g1, p * 8 + 4, none⟩ = some (.int .i64 pl) := fun s => s.fr.cell p4
            have xp5 : ∀ s : Later wr, s.u.cell? ⟨g1, p * 8 + 5, none⟩ = some (.int .i64 ps) := fun s => s.fr.cell p5
            have xp6 : ∀ s : Later wr, s.u.cell? ⟨g1, p * 8 + 6, none⟩ = some (.int .i64 pf) := fun s => s.fr.cell p6
            have xp7 : ∀ s : Later wr, s.u.cell? ⟨g1, p * 8 + 7, none⟩ = some (.int .i64 pt) := fun s => s.fr.cell p7
            have xq0 : ∀ s : Later wr, s.u.cell? ⟨g1, k * 8, none⟩ = some (.int .i64 qk) := fun s => s.fr.cell q0
            have xq1 : ∀ s : Later wr, s.u.cell? ⟨g1, k * 8 + 1, none⟩ = some (.int .i64 qg) := fun s => s.fr.cell q1
            have xq2 : ∀ s : Later wr, s.u.cell? ⟨g1, k * 8 + 2, none⟩ = some (.int .i64 qo) := fun s => s.fr.cell q2
            have xq3 : ∀ s : Later wr, s.u.cell? ⟨g1, k * 8 + 3, none⟩ = some (.int .i64 qw) := fun s => s.fr.cell q3
            have xq4 : ∀ s : Later wr, s.u.cell? ⟨g1, k * 8 + 4, none⟩ = some (.int .i64 ql) := fun s => s.fr.cell q4
            have xq5 : ∀ s : Later wr, s.u.cell? ⟨g1, k * 8 + 5, none⟩ = some (.int .i64 qs) := fun s => s.fr.cell q5
            have xq6 : ∀ s : Later wr, s.u.cell? ⟨g1, k * 8 + 6, none⟩ = some (.int .i64 qf) := fun s => s.fr.cell q6
            have xq7 : ∀ s : Later wr, s.u.cell? ⟨g1, k * 8 + 7, none⟩ = some (.int .i64 qt) := fun s => s.fr.cell q7
            have xr : ∀ s : Later wr, s.u.cell? ⟨ag, k, none⟩ = some (.slice (some ⟨rb, 0, none⟩) ls.length rbc) := fun s => s.fr.cell hcell
            have xb : ∀ s : Later wr, s.u.cell? ⟨rb, p, none⟩ = some (.bool T) := fun s => s.fr.cell hbit
            have c1 : ∀ s : Later wr, Calls Tryz.prog 134 #[.agg #[.int .i64 (⟨pk, pg, po, pw, pl, ps, pf, pt⟩ : Ev).k, .int .i64 (⟨pk, pg, po, pw, pl, ps, pf, pt⟩ : Ev).g, .int .i64 (⟨pk, pg, po, pw, pl, ps, pf, pt⟩ : Ev).o, .int .i64 (⟨pk, pg, po, pw, pl, ps, pf, pt⟩ : Ev).w, .int .i64 (⟨pk, pg, po, pw, pl, ps, pf, pt⟩ : Ev).l, .int .i64 (⟨pk, pg, po, pw, pl, ps, pf, pt⟩ : Ev).s, .int .i64 (⟨pk, pg, po, pw, pl, ps, pf, pt⟩ : Ev).f, .int .i64 (⟨pk, pg, po, pw, pl, ps, pf, pt⟩ : Ev).t], .agg #[.int .i64 (⟨qk, qg, qo, qw, ql, qs, qf, qt⟩ : Ev).k, .int .i64 (⟨qk, qg, qo, qw, ql, qs, qf, qt⟩ : Ev).g, .int .i64 (⟨qk, qg, qo, qw, ql, qs, qf, qt⟩ : Ev).o, .int .i64 (⟨qk, qg, qo, qw, ql, qs, qf, qt⟩ : Ev).w, .int .i64 (⟨qk, qg, qo, qw, ql, qs, qf, qt⟩ : Ev).l, .int .i64 (⟨qk, qg, qo, qw, ql, qs, qf, qt⟩ : Ev).s, .int .i64 (⟨qk, qg, qo, qw, ql, qs, qf, qt⟩ : Ev).f, .int .i64 (⟨qk, qg, qo, qw, ql, qs, qf, qt⟩ : Ev).t]] s.u fun y w' => y = .returned (.bool C) ∧ Fr s.u w' := fun s => hcl s.u
            simp only at c1
            clear hcl p0 p1 p2 p3 p4 p5 p6 p7 q0 q1 q2 q3 q4 q5 q6 q7 hcell hbit
            have hsome := Later.some wr
            rcases hpass with hnear | ⟨hnear, hlkp⟩
            case' inl =>
              subst hnear
              go_wp2_with fail
            case' inr =>
              subst hnear
              have hpm : p < lk.length := by
                by_cases q : p < lk.length
                · exact q
                · rw [List.getD_eq_getElem?_getD, List.getElem?_eq_none (by omega)] at hlkp
                  cases hlkp
              have hpm2 : (p : Int) < m := by omega
              have hge : decide ((p : Int) ≥ (m : Int)) = false := by simp; omega
              obtain ⟨lb, loff, rfl, hb⟩ := bo_cell (HLk.out _ hF) hpm
              rw [hlkp] at hb
              go_wp2_with fail
              clear hb hge hpm hpm2
            all_goals
              cases C
              · have HT : Hid _ := HT.out.trans (if_neg (by simp))
                refine wp_region_grown (by kernel_rfl) (by kernel_rfl) ?_
                repeat (go_big_quiet_step (first | with_reducible exact Calls.grown_of (c1 _)))
                refine wpQuiet_nil ?_
                rintro _ ⟨s, rfl⟩
                go_wp2_with fail
                go_roundw
                case rel => exact ⟨p + 1, by omega, by go_num, by rw [HT.out]; exact OwnG.fr oV s.fr, hS.trans s.fr.toS, hO, hF.trans s.fr⟩
                case measure => simp [intOf] <;> omega
              · have c2 := fun s : Later wr => hby rfl s.u s.fr
                clear hby
                cases T
                · cases Y
                  · have HT : Hid _ := HT.out.trans (if_neg (by simp))
                    refine wp_region_grown (by kernel_rfl) (by kernel_rfl) ?_
                    repeat (go_big_quiet_step (first | with_reducible exact Calls.grown_of (c1 _) | with_reducible exact Calls.grown_of (c2 _)))
                    refine wpQuiet_nil ?_
                    rintro _ ⟨s, rfl⟩
                    go_wp2_with fail
                    go_roundw
                    case rel => exact ⟨p + 1, by omega, by go_num, by rw [HT.out]; exact OwnG.fr oV s.fr, hS.trans s.fr.toS, hO, hF.trans s.fr⟩
                    case measure => simp [intOf] <;> omega
                  · have HT : Hid _ := HT.out.trans (if_pos (by simp))
                    refine wp_region_grown (by kernel_rfl) (by kernel_rfl) ?_
                    repeat (go_big_quiet_step (first | with_reducible exact Calls.grown_of (c1 _) | with_reducible exact Calls.grown_of (c2 _)))
                    refine wpQuiet_nil ?_
                    rintro _ ⟨s, rfl⟩
                    have f5 := Fr.alloc s.u (.cells #[.int .i64 (p : Int), .int .i64 (k : Int)] 51)
                    have k5 := heap_alloc_new s.u (.cells #[.int .i64 (p : Int), .int .i64 (k : Int)] 51)
                    have hnew : ∀ q, q < layPr.sz → (s.u.alloc (.cells #[.int .i64 (p : Int), .int .i64 (k : Int)] 51)).cell? ⟨s.u.heap.size, q, none⟩ = (layPr.cs ((p : Int), (k : Int)))[q]? := by
                      intro q hq
                      have hq2 : q < 2 := hq
                      rw [cell_of_row _ _ _ _ _ _ k5]
                      rcases q with _ | _ | q
                      · rfl
                      · rfl
                      · omega
                    have o5 := OwnG.fr (OwnG.fr oV s.fr) f5
                    have hz5 : (s.u.alloc (.cells #[.int .i64 (p : Int), .int .i64 (k : Int)] 51)).heap.size = s.u.heap.size + 1 := by simp
                    have hzs := s.fr.size
                    have hzF := hF.size
                    have hll : ∀ nr, (pairsL ls lk nr k ++ pairsP ls lk nr k p).length ≤ 16777215 := fun nr => by
                      have h1 := pairsL_len ls lk nr k (by omega)
                      have h2 := pairsP_len ls lk nr k p
                      rw [List.length_append]
                      omega
                    have hS5 := hS.trans (s.fr.trans f5).toS
                    have hF5 := hF.trans (s.fr.trans f5)
                    have hSs := hS.size
                    clear k5 c1 c2
                    go_wp2_with (at_builtin; refine appG layPr _ rfl _ _ 46 (.agg #[.int .i64 0, .int .i64 0]) 16 rfl Tryz.underlying46 infoPr rfl (by omega) w.heap.size _ _ ((p : Int), (k : Int)) rfl o5 _ _ rfl hnew (hll _) (by omega) ?_; intro v3 z3 s4 g3 at3)
                    go_roundw
                    case rel =>
                      have hW := HW.out
                      refine ⟨p + 1, by omega, by go_num, by rw [HT.out, ← List.append_assoc]; exact s4, hS5.then2 g3 (fun j hj => ?_), fun b hb => ?_, hF5.then g3 (fun j hj => ?_)⟩
                      · rcases hO j hj with q | q
                        · exact .inl q
                        · exact .inr q
                      · rcases at3 with e | e
                        · exact hO b (e ▸ hb)
                        · rw [e] at hb
                          simp only [Option.some.injEq] at hb
                          exact .inr (by omega)
                      · rcases hO j hj with q | q <;> omega
                    case measure => simp [intOf] <;> omega
                · have HT : Hid _ := HT.out.trans (if_neg (by simp))
                  refine wp_region_grown (by kernel_rfl) (by kernel_rfl) ?_
                  repeat (go_big_quiet_step (first | with_reducible exact Calls.grown_of (c1 _) | with_reducible exact Calls.grown_of (c2 _)))
                  refine wpQuiet_nil ?_
                  rintro _ ⟨s, rfl⟩
                  go_wp2_with fail
                  go_roundw
                  case rel => exact ⟨p + 1, by omega, by go_num, by rw [HT.out]; exact OwnG.fr oV s.fr, hS.trans s.fr.toS, hO, hF.trans s.fr⟩
                  case measure => simp [intOf] <;> omega
        · have e : p = k := by omega
          subst e
          have oV : Hid _ := oV
          go_wp2_with fail
          go_roundw
          case rel => exact ⟨p + 1, by omega, by go_num, oV.out, hS, hO, hF⟩
          case measure => simp [intOf] <;> omega
    · have e : k = ls.length := by omega
      subst e
      go_wp2_with fail
      go_ret
      exact ⟨_, rfl, oV, hF⟩
end Go.Proofs.YtcofhmikdkkigaaGreatDoor
namespace Go.Proofs.YtcofhmikdkkigaaGreatDoor
open Go.RowKit

theorem bo_nil (w : World) (lo : Option Addr) : ReadsG layBo w lo [] := ReadsG.nil layBo w lo

set_option maxHeartbeats 1000000 in
theorem specRaces_any (gb off n c : Nat) (es : List Ev) (w : World) (hn : es.length = n) (hnc : n ≤ c) (h : ReadsE w (some ⟨gb, off, none⟩) es) :
    Calls Tryz.prog 25 #[.slice (some ⟨gb, off, none⟩) n c] w fun x w' => ∃ v, x = .returned v ∧ OwnG layPr w' w.heap.size v (pairsL (lpL es) [] false (lpL es).length) ∧ Fr w w' := by
  have f0 := Fr.alloc w (.cells #[] 4)
  have cP := l8Pairs_any gb off n c (some ⟨w.heap.size, 0, none⟩) 0 0 false es [] _ hn hnc (h.fr f0) rfl (bo_nil _ _) (by omega)
  go_enter Tryz.func25, Tryz.ntmps25
  go_wp2_with fail
  refine cP.mono ?_
  rintro x u1 ⟨v, rfl, o1, f1⟩
  go_wp2_with fail
  go_ret
  exact ⟨v, rfl, o1.lower (by simp), f0.trans f1⟩

set_option maxHeartbeats 1000000 in
theorem specIsRace_any (gb off n c : Nat) (es : List Ev) (i j : Int) (w : World) (hn : es.length = n) (hnc : n ≤ c) (h : ReadsE w (some ⟨gb, off, none⟩) es) :
    Calls Tryz.prog 40 #[.slice (some ⟨gb, off, none⟩) n c, .int .i64 i, .int .i64 j] w fun x w' => x = .returned (.bool (hasP (pairsL (lpL es) [] false (lpL es).length) i j)) ∧ Fr w w' := by
  have f0 := Fr.alloc w (.cells #[] 4)
  have cP := l8Pairs_any gb off n c (some ⟨w.heap.size, 0, none⟩) 0 0 false es [] _ hn hnc (h.fr f0) rfl (bo_nil _ _) (by omega)
  obtain ⟨ps, hps⟩ : ∃ ps, ps = pairsL (lpL es) [] false (lpL es).length := ⟨_, rfl⟩
  rw [← hps] at cP ⊢
  clear hps
  go_enter Tryz.func40, Tryz.ntmps40
  go_wp2_with fail
  refine cP.mono ?_
  rintro x u1 ⟨v, rfl, o1, f1⟩
  obtain ⟨g, cap, rfl, ho, hl⟩ := o1
  have hI := l8In_any (some ⟨g, 0, none⟩) ps.length cap ps i j u1 rfl (own_readsG ho hl)
  go_wp2_with fail
  refine hI.mono ?_
  rintro x u2 ⟨rfl, rfl⟩
  go_wp2_with fail
  go_ret
  exact ⟨rfl, f0.trans f1⟩

set_option maxHeartbeats 1000000 in
theorem specShort_any (gb off n c : Nat) (lo : Option Addr) (m lc : Nat) (es : List Ev) (lk : List Bool) (w : World) (hn : es.length = n) (hnc : n ≤ c) (h : ReadsE w (some ⟨gb, off, none⟩) es) (hm : lk.length = m) (hL : ReadsG layBo w lo lk) (hm2 : m ≤ 16777216) :
    Calls Tryz.prog 26 #[.slice (some ⟨gb, off, none⟩) n c, .slice lo m lc] w fun x w' => ∃ v, x = .returned v ∧ OwnG layPr w' w.heap.size v (pairsL (lpL es) lk true (lpL es).length) ∧ Fr w w' := by
  have cP := l8Pairs_any gb off n c lo m lc true es lk w hn hnc h hm hL hm2
  go_enter Tryz.func26, Tryz.ntmps26
  go_wp2_with fail
  refine cP.mono ?_
  rintro x u1 ⟨v, rfl, o1, f1⟩
  go_wp2_with fail
  go_ret
  exact ⟨v, rfl, o1, f1⟩

set_option maxHeartbeats 1000000 in
theorem specIsShort_any (gb off n c : Nat) (lo : Option Addr) (m lc : Nat) (es : List Ev) (lk : List Bool) (i j : Int) (w : World) (hn : es.length = n) (hnc : n ≤ c) (h : ReadsE w (some ⟨gb, off, none⟩) es) (hm : lk.length = m) (hL : ReadsG layBo w lo lk) (hm2 : m ≤ 16777216) :
    Calls Tryz.prog 45 #[.slice (some ⟨gb, off, none⟩) n c, .slice lo m lc, .int .i64 i, .int .i64 j] w fun x w' => x = .returned (.bool (hasP (pairsL (lpL es) lk true (lpL es).length) i j)) ∧ Fr w w' := by
  have cP := l8Pairs_any gb off n c lo m lc true es lk w hn hnc h hm hL hm2
  obtain ⟨ps, hps⟩ : ∃ ps, ps = pairsL (lpL es) lk true (lpL es).length := ⟨_, rfl⟩
  rw [← hps] at cP ⊢
  clear hps
  go_enter Tryz.func45, Tryz.ntmps45
  go_wp2_with fail
  refine cP.mono ?_
  rintro x u1 ⟨v, rfl, o1, f1⟩
  obtain ⟨g, cap, rfl, ho, hl⟩ := o1
  have hI := l8In_any (some ⟨g, 0, none⟩) ps.length cap ps i j u1 rfl (own_readsG ho hl)
  go_wp2_with fail
  refine hI.mono ?_
  rintro x u2 ⟨rfl, rfl⟩
  go_wp2_with fail
  go_ret
  exact ⟨rfl, f1⟩

theorem raceSieve_any (w : World) :
    Calls Tryz.prog 75 #[] w fun x w' => x = .returned (.func (.func 132) #[] #[]) ∧ w' = w := by
  go_enter Tryz.func75, Tryz.ntmps75
  go_wp2
  go_ret
  exact ⟨rfl, rfl⟩
end Go.Proofs.YtcofhmikdkkigaaGreatDoor
namespace Go.Proofs
shelf_lay_g SlLaysE0.n35 Slgn 35 at Tryz 175 as Tryz.revPair
end Go.Proofs
namespace Go.Proofs.YtcofhmikdkkigaaGreatDoor
open Go.RowKit Go.Sort Go.Shelf Go.Lib

theorem flatK_cells (ps : List (Int × Int)) : (flatK layPr.cs 2 ps.toArray).toList = ps.flatMap layPr.cs := by
  have hl : (ps.flatMap layPr.cs).length = ps.length * 2 := by
    induction ps with
    | nil => rfl
    | cons p ps ih => rw [List.flatMap_cons, List.length_append, ih]; simp [layPr]; omega
  apply List.ext_getElem?
  intro t
  by_cases ht : t < ps.length * 2
  · have h1 := cellsG_at layPr ps (t / 2) (t % 2) (by omega) (by show t % 2 < 2; omega)
    have e : t / 2 * layPr.sz + t % 2 = t := by show t / 2 * 2 + t % 2 = t; omega
    rw [e] at h1
    rw [h1]
    have h2 := get_flatK layPr.cs 2 ps.toArray t (by simpa using ht)
    have hs : t < (flatK layPr.cs 2 ps.toArray).size := by rw [size_flatK]; simpa using ht
    rw [Array.getElem?_toList, Array.getElem?_eq_getElem hs]
    rw [getElem!_pos _ t hs] at h2
    rw [h2]
    have hd : t / 2 < ps.length := by omega
    have e3 : ps.toArray[t / 2]! = ps[t / 2] := by rw [getElem!_pos _ _ (by simpa using hd)]; simp
    rw [e3]
    have hk : t % 2 < (layPr.cs ps[t / 2]).length := by show t % 2 < 2; omega
    rw [getElem!_pos (layPr.cs ps[t / 2]) (t % 2) hk, List.getElem?_eq_getElem hk]
  · rw [List.getElem?_eq_none (by rw [Array.length_toList, size_flatK]; simp; omega), List.getElem?_eq_none (by omega)]

theorem take_put (cur : Array Value) (F : Array Value) (h : F.size ≤ cur.size) : (putCells id 0 F cur).toList.take F.size = F.toList := by
  apply List.ext_getElem?
  intro j
  by_cases hj : j < F.size
  · rw [List.getElem?_take_of_lt hj, Array.getElem?_toList, Array.getElem?_toList]
    simp [putCells, hj, show j < cur.size by omega]
  · rw [List.getElem?_take_eq_none (by omega), List.getElem?_eq_none (by simp; omega)]

theorem rev_any (B g cap : Nat) (ps : List (Int × Int)) (u : World) (h : OwnG layPr u B (.slice (some ⟨g, 0, none⟩) ps.length cap) ps) :
    Calls Tryz.prog 175 #[.slice (some ⟨g, 0, none⟩) ps.length cap] u fun x u' => x = .returned (.tuple #[]) ∧ OwnG layPr u' B (.slice (some ⟨g, 0, none⟩) ps.length cap) ps.reverse ∧ u.grownBy u' (some g) := by
  obtain ⟨g0, cap0, e0, ho, hl⟩ := h
  cases e0
  rcases ho.2 with ⟨e, _⟩ | ⟨g', cap', cur, e, hg, hc, h1, h2, h3, h4⟩
  · cases e
  cases e
  have hH : HoldsK layPr.cs 2 u g 0 ps.toArray := by
    intro t ht
    have ht' : t < ps.length * 2 := by simpa using ht
    refine ⟨?_, by simp [World.frozen?, hc]⟩
    have hs : t < (flatK layPr.cs 2 ps.toArray).size := by rw [size_flatK]; simpa using ht'
    have h5 := flatK_cells ps
    have h6 := ho.cellAt t (by show t < ps.length * 2; exact ht')
    rw [Nat.zero_add, h6, ← h5, Array.getElem?_toList, Array.getElem?_eq_getElem hs, getElem!_pos _ t hs]
    rfl
  have hsz : ps.length = ps.toArray.size := by simp
  have key := AnyQ.slices_Reverse Tryz.revPair 2 Tryz.isAgg51 Tryz.sizeOf51 layPr.cs (fun _ => rfl) (fun x v hv => layPr.one x v hv) g 0 cap ps.toArray u hH (by simp; omega)
  rw [← hsz] at key
  refine key.mono ?_
  rintro x u' ⟨rfl, n, rfl⟩
  have hrl : ps.reverse.length = ps.length := List.length_reverse
  have hF : flatK layPr.cs 2 ps.toArray.reverse = flatK layPr.cs 2 ps.reverse.toArray := by simp
  refine ⟨rfl, ⟨g, cap, by rw [hrl], ?_, by rw [hrl]; exact hl⟩, ?_⟩
  · rw [hrl]
    have hb : (putRowK layPr.cs 2 (Sort.ahead u n) g 0 ps.toArray.reverse).heap[g]? = some (.cells (putCells id 0 (flatK layPr.cs 2 ps.reverse.toArray) cur) 51 (0, 0)) := by
      rw [← hF]
      show (mapBlock (Sort.ahead u n) g (putCells id 0 (flatK layPr.cs 2 ps.toArray.reverse))).heap[g]? = _
      simp [mapBlock, Sort.ahead, Array.getElem?_modify, hc]
      rfl
    have hz : (flatK layPr.cs 2 ps.reverse.toArray).size = ps.length * 2 := by rw [size_flatK]; simp
    have h3' : cur.size = cap * 2 := h3
    refine ⟨?_, .inr ⟨g, cap, _, rfl, hg, hb, h1, h2, by simp [putCells]; exact h3', ?_⟩⟩
    · rw [← flatK_cells, Array.length_toList, hz]
      exact rfl
    · have := take_put cur (flatK layPr.cs 2 ps.reverse.toArray) (by omega)
      rw [hz, flatK_cells] at this
      exact this
  · refine ⟨rfl, rfl, rfl, by simp [putRowK, putRow, mapBlock, Sort.ahead], fun k hk hne => ?_⟩
    have : g ≠ k := fun e => hne (by rw [e])
    simp [putRowK, putRow, mapBlock, Sort.ahead, Array.getElem?_modify, this]
end Go.Proofs.YtcofhmikdkkigaaGreatDoor
