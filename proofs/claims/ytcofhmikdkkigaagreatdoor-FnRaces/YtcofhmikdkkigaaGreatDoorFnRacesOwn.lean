/-
  The law FnRaces answers true at every code (the program's table lying as the program's text lays it), and leaves it as it was.
-/
import Derived.Test.YtcofhmikdkkigaaGreatDoorRows
import Derived.Test.YtcofhmikdkkigaaGreatDoorCards
import Derived.Test.YtcofhmikdkkigaaGreatDoorTie
import Derived.Test.YtcofhmikdkkigaaGreatDoorPrAV
import Derived.Test.YtcofhmikdkkigaaGreatDoorShortM
import Derived.Test.YtcofhmikdkkigaaGreatDoorPsD
import Derived.Test.YtcofhmikdkkigaaGreatDoorPrBG
import Derived.Test.YtcofhmikdkkigaaGreatDoorPsB
import Derived.Test.YtcofhmikdkkigaaGreatDoorPrLk
import Derived.Test.YtcofhmikdkkigaaGreatDoorPrBE
import Derived.Test.YtcofhmikdkkigaaGreatDoorPrBC
import Derived.Deep.Cut
import Derived.BigQuiet
import Derived.WalkKit
import Derived.ProofKit
import Derived.OpenShut
import Derived.LaidMore
import Derived.Stop.Joined
import Derived.OpenVars
import Derived.SevenTiedAt
namespace Go.Proofs.YtcofhmikdkkigaaGreatDoor.fnRaces
open Go.ChangeShapes Go.WideShapes Go.ChangeAt Go.RowKit
set_option linter.unusedVariables false

def IsRow (k : IntKind) (w : World) (a : Option Addr) (len cap : Nat) (zs : List Int) : Prop :=
  (a = none ∧ len = 0 ∧ cap = 0 ∧ zs = []) ∨
  ∃ x, a = some x ∧ len ≤ cap ∧ cap ≤ maxLen ∧ zs.length = cap ∧ (∀ i, i < zs.length → w.cell? (x.add i) = some (.int k (zs.getD i 0))) ∧ ∀ n ∈ zs, (Lit.int k n).wf = true

theorem lpL_all {es : List Ev} (hl : es.length ≤ 300) (hleg : (legS scn0 es).2.1 = es.length) : lpL es = es := by
  unfold lpL legLen
  rw [if_neg (by omega), hleg]
  simp
theorem race_facts {es : List Ev} (hl : es.length ≤ 300) (hleg : (legS scn0 es).2.1 = es.length) {k : Nat} (hk : k < (pairsL es [] false es.length).length) : ∃ I J : Nat, (pairsL es [] false es.length)[k] = ((I : Int), (J : Int)) ∧ I < J ∧ J < es.length ∧ claB (evA es I) (evA es J) = true ∧ (inB 0 299 (I : Int) && (rJ es (J : Int)).2.testBit (I : Int).toNat) = false := by
  obtain ⟨⟨x, y⟩, hp⟩ : ∃ p, p = (pairsL es [] false es.length)[k] := ⟨_, rfl⟩
  have hm := List.getElem_mem hk
  rw [← hp] at hm ⊢
  obtain ⟨h1, h2, h3, h4⟩ := (pairsL_mem _).1 hm
  refine ⟨x.toNat, y.toNat, by rw [Int.toNat_of_nonneg h1, Int.toNat_of_nonneg (by omega)], by omega, by omega, ?_, ?_⟩
  · unfold pairB at h4
    simp only [Bool.and_eq_true] at h4
    exact h4.1.1.2
  · unfold pairB at h4
    simp only [Bool.and_eq_true, Bool.not_eq_true'] at h4
    rw [rJ_at hl hleg (by omega), Int.toNat_natCast]
    have h5 := h4.1.2
    simp only [h5, Bool.and_false]
theorem short_facts {es : List Ev} {lk : List Bool} {k : Nat} (hk : k < (pairsL es lk true es.length).length) : ∃ I J : Nat, (pairsL es lk true es.length)[k] = ((I : Int), (J : Int)) ∧ I < J ∧ J < es.length ∧ hasP (pairsL es [] false es.length) (I : Int) (J : Int) = true ∧ lk.getD I false = true := by
  obtain ⟨⟨x, y⟩, hp⟩ : ∃ p, p = (pairsL es lk true es.length)[k] := ⟨_, rfl⟩
  have hm := List.getElem_mem hk
  rw [← hp] at hm ⊢
  obtain ⟨h1, h2, h3, h4⟩ := (pairsL_mem _).1 hm
  refine ⟨x.toNat, y.toNat, by rw [Int.toNat_of_nonneg h1, Int.toNat_of_nonneg (by omega)], by omega, by omega, ?_, ?_⟩
  · rw [hasP_iff, pairsL_mem]
    rw [Int.toNat_of_nonneg h1, Int.toNat_of_nonneg (by omega)]
    exact ⟨h1, h2, h3, near_race h4⟩
  · unfold pairB at h4
    simp only [Bool.and_eq_true] at h4
    simpa using h4.1.1.1

set_option maxHeartbeats 8000000 in
set_option maxRecDepth 20000 in
theorem walk (a0 : Option Addr) (len0 cap0 : Nat) (z0 : List Int) (w : World) (w0 : IsRow .u8 w a0 len0 cap0 z0) (hs : Shapes w) :
    Calls Tryz.prog 4 #[.slice a0 len0 cap0] w fun e w' => e = .returned (.bool true) ∧ Below w.heap.size w w' := by
  have hcap : len0 ≤ 9223372036854775807 := by
    rcases w0 with ⟨_, e, _⟩ | ⟨x, _, h1, h2, _⟩
    · omega
    · unfold maxLen at h2; omega
  by_cases hbig : (4096 : Int) < (len0 : Int)
  · have hd : decide ((4096 : Int) < (len0 : Int)) = true := decide_eq_true hbig
    go_enter Tryz.func4, Tryz.ntmps4
    go_wp2_with fail
    refine (big_any _ _ _ _ hcap).mono ?_
    rintro e u1 ⟨rfl, rfl⟩
    go_wp2_with fail
    go_ret
    exact ⟨rfl, Below.refl _ _⟩
  · have hd : decide ((4096 : Int) < (len0 : Int)) = false := decide_eq_false hbig
    have hr := bytes_of_row w0
    have hl : len0 ≤ 4096 := by omega
    clear hbig
    go_enter Tryz.func4, Tryz.ntmps4
    go_wp2_with fail
    refine (big_any _ _ _ _ hcap).mono ?_
    rintro e u1 ⟨rfl, rfl⟩
    clear w0 hd hcap
    go_wp2_with fail
    refine (roll_any _ _ _ _ _ hr (by omega)).mono ?_
    rintro e u2 ⟨d, hh, rfl, D2, hd2, f2⟩
    have X2 := roll_dx hr D2 hd2 f2
    have hbq := bytes_below hr
    have hz2 := f2.size
    have hdz := D2.lt
    go_wp2_with fail
    refine (trace_any 40 X2 (by omega) (by omega) (by omega) (fun q p hp => by have := hbq q p hp; omega)).mono ?_
    rintro e u3 ⟨es, g, c, m, rfl, o3, ⟨L3, T3⟩, ⟨n2, n3⟩, D3⟩
    clear X2 D2 hr
    have F3 := f2.then D3.g (fun j hj => by simp only [Option.some.injEq] at hj; omega)
    have tg := o3.lt g rfl
    have R := own_readsE o3 (by omega)
    have hc2 : es.length ≤ c := own_capR o3
    have hleg : (legS scn0 es).2.1 = es.length := by rw [L3]
    have hd3 := D3
    have hb2 : 0 < len0 → ∀ q, blk a0 = some q → q < u2.heap.size := fun q p hp => by have := hbq q p hp; omega
    obtain ⟨Z3, hZ3⟩ : ∃ n, n = u3.heap.size := ⟨_, rfl⟩
    have hz3 : u2.heap.size ≤ Z3 := by rw [hZ3]; exact D3.g.size
    have fB := Fr.alloc u3 (.cells #[] 4)
    have oB := ownG_new layBo u3 u3.heap.size (Nat.le_refl _)
    have oB : OwnG layBo (u3.alloc (.cells #[] 4)) u3.heap.size (.slice (some ⟨u3.heap.size, 0, none⟩) 0 0) [] := oB
    have XB := D3.fr fB
    have kS : FrS (fun x => x = d) u3 (u3.alloc (.cells #[] 4)) := frS_fr fB
    go_upto_region 6 with fail
    obtain ⟨V, hV⟩ : ∃ V, V = u3.alloc (.cells #[] 4) := ⟨_, rfl⟩
    rw [← hV] at oB XB kS ⊢
    rw [← hZ3] at oB ⊢
    have HZ3 : Hid (Z3 = u3.heap.size) := hZ3
    clear hV fB hZ3 D3 hd3
    go_wp2_with fail
    go_loopw [5, 6] (fun v i wr => ∃ (k : Nat) (lk : List Bool), k ≤ es.length ∧ i = .int .i64 k ∧ Hid (lk.length = k) ∧ OwnG layBo wr Z3 v lk ∧ DX u2 wr d a0 len0 cap0 ∧ FrS (fun x => x = d) u3 wr) (fun _ i _ => es.length - (intOf i).toNat)
    case atStart => exact ⟨0, [], Nat.zero_le _, rfl, rfl, oB, XB, kS⟩
    case round =>
      obtain ⟨k, lk, hk, rfl, hlk, oL, X, kF⟩ := hrel
      clear oB XB kS
      by_cases hlt : k < es.length
      · have hki : (k : Int) < (es.length : Int) := by omega
        have hsz := kF.size
        go_wp2_with fail
        refine (belowX X (by omega) 3 (by omega) (by omega)).mono ?_
        rintro e w4 ⟨y, rfl, y0, y1, k4, X4⟩
        have hbk := ownG_blk oL
        have oL4 := oL.keep k4 (fun e => by have := hbk d e; have := HZ3.out; omega)
        have kF4 := frS_row kF k4 (fun j hj => by simp only [Option.some.injEq] at hj; exact .inl hj.symm)
        have s4 := k4.size
        have hZ4 : Z3 ≤ w4.heap.size := by have := HZ3.out; omega
        have hm := hlk.out
        have f5 := fun B => Fr.alloc w4 (.cells #[.bool B] 4)
        have n5 := fun B => heap_alloc_new w4 (.cells #[.bool B] 4)
        clear oL X kF k4
        by_cases hy : 0 < y
        · have hd5 : decide (0 < y) = true := decide_eq_true hy
          have hnew : ∀ q, q < layBo.sz → (w4.alloc (.cells #[.bool true] 4)).cell? ⟨w4.heap.size, q, none⟩ = (layBo.cs true)[q]? := by
            intro q hq
            have hq1 : q < 1 := hq
            obtain rfl : q = 0 := by omega
            rw [cell_of_row _ _ _ _ _ _ (n5 true)]
            rfl
          go_wp2_with (at_builtin; refine appG layBo _ rfl _ _ 44 (.bool false) 1 rfl Tryz.underlying44 infoBo8 rfl (by omega) Z3 _ lk true rfl (oL4.fr (f5 true)) _ _ rfl hnew (by omega) (by simp; omega) ?_; intro v1 w6 hv1 ha1 hat1)
          have hbk4 := ownG_blk oL4
          go_roundw
          case rel =>
            exact ⟨k + 1, lk ++ [true], by omega, by go_num, (by show (lk ++ [true]).length = k + 1; simp; omega), hv1, (X4.fr (f5 true)).past ha1 (fun i hi => by have := hbk4 i hi; have := HZ3.out; omega) hdz hb2, frS_row (FrS.trans kF4 (frS_fr (f5 true))) ha1 (fun i hi => .inr (by have := hbk4 i hi; have := HZ3.out; omega))⟩
          case measure => simp [intOf]; omega
        · have hd5 : decide (0 < y) = false := decide_eq_false hy
          have hnew : ∀ q, q < layBo.sz → (w4.alloc (.cells #[.bool false] 4)).cell? ⟨w4.heap.size, q, none⟩ = (layBo.cs false)[q]? := by
            intro q hq
            have hq1 : q < 1 := hq
            obtain rfl : q = 0 := by omega
            rw [cell_of_row _ _ _ _ _ _ (n5 false)]
            rfl
          go_wp2_with (at_builtin; refine appG layBo _ rfl _ _ 44 (.bool false) 1 rfl Tryz.underlying44 infoBo8 rfl (by omega) Z3 _ lk false rfl (oL4.fr (f5 false)) _ _ rfl hnew (by omega) (by simp; omega) ?_; intro v1 w6 hv1 ha1 hat1)
          have hbk4 := ownG_blk oL4
          go_roundw
          case rel =>
            exact ⟨k + 1, lk ++ [false], by omega, by go_num, (by show (lk ++ [false]).length = k + 1; simp; omega), hv1, (X4.fr (f5 false)).past ha1 (fun i hi => by have := hbk4 i hi; have := HZ3.out; omega) hdz hb2, frS_row (FrS.trans kF4 (frS_fr (f5 false))) ha1 (fun i hi => .inr (by have := hbk4 i hi; have := HZ3.out; omega))⟩
          case measure => simp [intOf]; omega
      · obtain rfl : k = es.length := by omega
        obtain ⟨W0, rfl⟩ : ∃ x, x = wr := ⟨_, rfl⟩
        have hzz := HZ3.out
        have F1 : Fr u1 W0 := f2.then X.g (fun j hj => by simp only [Option.some.injEq] at hj; omega)
        have RE : ReadsE W0 (some ⟨g, 0, none⟩) es := R.keepS kF (fun b hb q => by simp only [blk, Option.map_some, Option.some.injEq] at hb; omega)
        have hsW := hs.fr F1
        have hgW : g < W0.heap.size := Nat.lt_of_lt_of_le tg.2 kF.size
        have hlkl := hlk.out
        obtain ⟨gL, cL, rfl⟩ := ownG_some oL
        have hRL := ownG_readsG oL
        rw [hlkl] at oL ⊢
        have hlp : lpL es = es := lpL_all (by omega) hleg
        have cR := fun u (f : Fr W0 u) => implRaces_any g 0 es.length c es u rfl hc2 (RE.fr f) (hsW.fr f) (Nat.lt_of_lt_of_le hgW f.size)
        have cRS := fun u (f : Fr W0 u) => specRaces_any g 0 es.length c es u rfl hc2 (RE.fr f)
        have cN := fun u (f : Fr W0 u) => implShort_any g 0 es.length c (some ⟨gL, 0, none⟩) es.length cL es lk u rfl hc2 (RE.fr f) (hsW.fr f) (Nat.lt_of_lt_of_le hgW f.size) hlkl (hRL.fr f) (by omega)
        have cNS := fun u (f : Fr W0 u) => specShort_any g 0 es.length c (some ⟨gL, 0, none⟩) es.length cL es lk u rfl hc2 (RE.fr f) hlkl (hRL.fr f) (by omega)
        have cI := fun (i j : Int) u (f : Fr W0 u) => implIsShort_any g 0 es.length c (some ⟨gL, 0, none⟩) es.length cL es lk i j u rfl hc2 (RE.fr f) (hsW.fr f) (Nat.lt_of_lt_of_le hgW f.size) hlkl (hRL.fr f) (by omega)
        have cO := fun (i j : Int) u (f : Fr W0 u) => implOrd_any (some ⟨g, 0, none⟩) es.length c es u rfl hc2 (RE.fr f) i j (hsW.fr f) (fun k hk => by simp only [blk, Option.map_some, Option.some.injEq] at hk; have := f.size; omega)
        have cC := fun (i j : Nat) u (f : Fr W0 u) => implCla_any (evA es i) (evA es j) u (hsW.fr f)
        rw [hlp] at cR cRS cN cNS cI
        have HEV : Hid (∀ (i : Nat), i < es.length → ∀ u, Fr W0 u → EvC u g (i * 8) (evA es i)) := fun i hi u f => by
          obtain ⟨b, o, e, hc⟩ := (RE.fr f).at_ i hi
          cases e
          rw [evA_at hi]
          have := hc i hi
          rwa [Nat.zero_add] at this
        have HLK : Hid (∀ (i : Nat), i < es.length → ∀ u, Fr W0 u → u.cell? ⟨gL, i, none⟩ = some (.bool (lk.getD i false))) := fun i hi u f => by
          obtain ⟨b, o, e, hc⟩ := boC (hRL.fr f) (show i < lk.length by omega)
          cases e
          rw [Nat.zero_add] at hc
          rw [hc, List.getD_eq_getElem?_getD, List.getElem?_eq_getElem (by omega)]
          rfl
        have hA9 := pairsL_len es [] false es.length (by omega)
        have hB9 := short_len es lk es.length
        obtain ⟨PA, hPA⟩ : ∃ p, p = pairsL es [] false es.length := ⟨_, rfl⟩
        obtain ⟨PB, hPB⟩ : ∃ p, p = pairsL es lk true es.length := ⟨_, rfl⟩
        have hA90 : PA.length ≤ 63000 := by rw [hPA]; omega
        have hB90 : PB.length ≤ 63000 := by rw [hPB]; omega
        have HPA : Hid (∀ k (hk : k < PA.length), ∃ I J : Nat, PA[k] = ((I : Int), (J : Int)) ∧ I < J ∧ J < es.length ∧ claB (evA es I) (evA es J) = true ∧ (inB 0 299 (I : Int) && (rJ es (J : Int)).2.testBit (I : Int).toNat) = false) := fun k hk => by
          subst hPA
          exact race_facts (by omega) hleg hk
        have HPB : Hid (∀ k (hk : k < PB.length), ∃ I J : Nat, PB[k] = ((I : Int), (J : Int)) ∧ I < J ∧ J < es.length ∧ hasP PA (I : Int) (J : Int) = true ∧ lk.getD I false = true) := fun k hk => by
          subst hPA hPB
          exact short_facts hk
        simp only [← hPA] at cR cRS
        simp only [← hPB] at cN cNS cI
        clear hPA hPB hA9 hB9 hlp hleg L3 T3 kF X RE hsW hgW hRL oL R hs HZ3 hzz hlk tg o3 f2 hd2 F3 hz3 hz2
        have hN210 := n3
        obtain ⟨NN, hNN⟩ : ∃ n, n = es.length := ⟨_, rfl⟩
        rw [← hNN] at hN210 cR cRS cN cNS cI cO HPA HPB HEV HLK n2 n3 hc2 ⊢
        have HNN : Hid (NN = es.length) := hNN
        clear hNN hlt hk
        have cR1 := cR _ (Fr.refl _)
        go_wp2_with fail
        refine cR1.mono ?_
        rintro x u7 ⟨v7, rfl, o7, f7⟩
        obtain ⟨g7, c7, rfl⟩ := ownG_some o7
        have cN1 := cN _ f7
        clear cR1
        go_wp2_with fail
        refine cN1.mono ?_
        rintro x u8 ⟨v8, rfl, o8, f8⟩
        obtain ⟨g8, c8, rfl⟩ := ownG_some o8
        have F8 := f7.trans f8
        have o7 := o7.fr f8
        have cRS1 := cRS _ F8
        clear cN1 cN cR
        go_wp2_with fail
        refine cRS1.mono ?_
        rintro x u9 ⟨v9, rfl, o9, f9⟩
        obtain ⟨g9, c9, rfl⟩ := ownG_some o9
        have o7 := o7.fr f9
        have o8 := o8.fr f9
        have F9 := F8.trans f9
        clear cRS1 cRS
        go_wp2_with fail
        refine (likePrs_same _ _ _ _ _ PA _ rfl (ownG_readsG o7) (ownG_readsG o9)).mono ?_
        rintro x u10 ⟨rfl, f10⟩
        have o7 := o7.fr f10
        have o8 := o8.fr f10
        have F10 := F9.trans f10
        have cNS1 := cNS _ F10
        clear o9
        go_wp2_with fail
        refine cNS1.mono ?_
        rintro x u11 ⟨v11, rfl, o11, f11⟩
        obtain ⟨g11, c11, rfl⟩ := ownG_some o11
        have o7 := o7.fr f11
        have o8 := o8.fr f11
        have F11 := F10.trans f11
        clear cNS1 cNS
        go_wp2_with fail
        refine (likePrs_same _ _ _ _ _ PB _ rfl (ownG_readsG o8) (ownG_readsG o11)).mono ?_
        rintro x u12 ⟨rfl, f12⟩
        have o7 := o7.fr f12
        have o8 := o8.fr f12
        have F12 := F11.trans f12
        clear o11
        have HPR : Hid (∀ u, Fr u12 u → ReadsG layPr u (some ⟨g7, 0, none⟩) PA ∧ ReadsG layPr u (some ⟨g8, 0, none⟩) PB) := fun u f => ⟨ownG_readsG (o7.fr f), ownG_readsG (o8.fr f)⟩
        clear o7 o8 f7 f8 f9 f10 f11 f12 F8 F9 F10 F11
        go_wp2_with fail
        go_loopw [9] (fun i wq => ∃ k : Nat, k ≤ PA.length ∧ i = .int .i64 k ∧ Fr u12 wq) (fun i _ => PA.length - (intOf i).toNat)
        case atStart => exact ⟨0, Nat.zero_le _, rfl, Fr.refl _⟩
        case round =>
          obtain ⟨k, hk, rfl, hf⟩ := hrel
          by_cases hlt : k < PA.length
          · have hki : (k : Int) < (PA.length : Int) := by omega
            obtain ⟨I, J, e, hIJ, hJN, hcl, hor⟩ := HPA.out k hlt
            have hIN : I < NN := by omega
            obtain ⟨b, off, e2, c0, c1⟩ := prC (HPR.out _ hf).1 hlt
            cases e2
            rw [e] at c0 c1
            simp only [Nat.zero_add] at c0 c1
            have FQ := F12.trans hf
            have HFQ : Hid (Fr u12 _) := hf
            clear e
            have fP := Fr.alloc wr (.cells #[.int .i64 (I : Int), .int .i64 (J : Int)] 51)
            have kP := heap_alloc_new wr (.cells #[.int .i64 (I : Int), .int .i64 (J : Int)] 51)
            go_upto_region 18 with fail
            obtain ⟨wz, hwz⟩ : ∃ wz, wz = wr.alloc (.cells #[.int .i64 (I : Int), .int .i64 (J : Int)] 51) := ⟨_, rfl⟩
            rw [← hwz] at fP kP ⊢
            clear hwz
            obtain ⟨P, hP⟩ : ∃ P, P = wr.heap.size := ⟨_, rfl⟩
            rw [← hP] at kP ⊢
            clear hP c0 c1
            have FZ := FQ.trans fP
            have x0 := fun σ : Later wz => σ.fr.cell (show wz.cell? ⟨P, 0, none⟩ = some (.int .i64 (I : Int)) by rw [cell_of_row _ _ _ _ _ _ kP]; rfl)
            have x1 := fun σ : Later wz => σ.fr.cell (show wz.cell? ⟨P, 1, none⟩ = some (.int .i64 (J : Int)) by rw [cell_of_row _ _ _ _ _ _ kP]; rfl)
            have p0 := fun σ : Later wz => (HEV.out I hIN σ.u (FZ.trans σ.fr)).c0
            have r0 := fun σ : Later wz => (HEV.out J hJN σ.u (FZ.trans σ.fr)).c0
            have p1 := fun σ : Later wz => (HEV.out I hIN σ.u (FZ.trans σ.fr)).c1
            have r1 := fun σ : Later wz => (HEV.out J hJN σ.u (FZ.trans σ.fr)).c1
            have p2 := fun σ : Later wz => (HEV.out I hIN σ.u (FZ.trans σ.fr)).c2
            have r2 := fun σ : Later wz => (HEV.out J hJN σ.u (FZ.trans σ.fr)).c2
            have p3 := fun σ : Later wz => (HEV.out I hIN σ.u (FZ.trans σ.fr)).c3
            have r3 := fun σ : Later wz => (HEV.out J hJN σ.u (FZ.trans σ.fr)).c3
            have p4 := fun σ : Later wz => (HEV.out I hIN σ.u (FZ.trans σ.fr)).c4
            have r4 := fun σ : Later wz => (HEV.out J hJN σ.u (FZ.trans σ.fr)).c4
            have p5 := fun σ : Later wz => (HEV.out I hIN σ.u (FZ.trans σ.fr)).c5
            have r5 := fun σ : Later wz => (HEV.out J hJN σ.u (FZ.trans σ.fr)).c5
            have p6 := fun σ : Later wz => (HEV.out I hIN σ.u (FZ.trans σ.fr)).c6
            have r6 := fun σ : Later wz => (HEV.out J hJN σ.u (FZ.trans σ.fr)).c6
            have p7 := fun σ : Later wz => (HEV.out I hIN σ.u (FZ.trans σ.fr)).c7
            have r7 := fun σ : Later wz => (HEV.out J hJN σ.u (FZ.trans σ.fr)).c7
            have cC1 := fun σ : Later wz => cC I J σ.u (FZ.trans σ.fr)
            have cO1 := fun σ : Later wz => cO I J σ.u (FZ.trans σ.fr)
            simp only [hcl] at cC1
            simp only [hor] at cO1
            obtain ⟨eI, hI2⟩ : ∃ e, e = evA es I := ⟨_, rfl⟩
            obtain ⟨eJ, hJ2⟩ : ∃ e, e = evA es J := ⟨_, rfl⟩
            rw [← hI2] at p0 p1 p2 p3 p4 p5 p6 p7
            rw [← hJ2] at r0 r1 r2 r3 r4 r5 r6 r7
            simp only [← hI2, ← hJ2] at cC1
            clear hI2 hJ2
            have hge : decide ((J : Int) ≤ (I : Int)) = false := decide_eq_false (by omega)
            have hge2 : decide (J ≤ I) = false := decide_eq_false (by omega)
            have hge3 : (J ≤ I) = False := eq_false (by omega)
            have hge4 : ((J : Int) ≤ (I : Int)) = False := eq_false (by omega)
            have hIi : (I : Int) < (NN : Int) := by omega
            have hJi : (J : Int) < (NN : Int) := by omega
            have hne := Later.some wz
            go_wp2_with fail
            refine wp_region_grown (by kernel_rfl) (by kernel_rfl) ?_
            repeat (go_big_quiet_step (first | with_reducible exact Calls.grown_of (cC1 _) | with_reducible exact Calls.grown_of (cO1 _)))
            refine wpQuiet_nil ?_
            rintro _ ⟨σ, rfl⟩
            clear p0 r0 p1 r1 p2 r2 p3 r3 p4 r4 p5 r5 p6 r6 p7 r7 cC1 cO1 hne x0 x1
            have FV := σ.fr
            obtain ⟨V2, hV2⟩ : ∃ V, V = σ.u := ⟨_, rfl⟩
            rw [← hV2] at FV ⊢
            clear hV2 σ
            have x0 := fun σ : Later V2 => (FV.trans σ.fr).cell (show wz.cell? ⟨P, 0, none⟩ = some (.int .i64 (I : Int)) by rw [cell_of_row _ _ _ _ _ _ kP]; rfl)
            have x1 := fun σ : Later V2 => (FV.trans σ.fr).cell (show wz.cell? ⟨P, 1, none⟩ = some (.int .i64 (J : Int)) by rw [cell_of_row _ _ _ _ _ _ kP]; rfl)
            have cI1 := fun σ : Later V2 => cI I J σ.u ((FZ.trans FV).trans σ.fr)
            have cH1 := fun σ : Later V2 => hasPair_any _ _ c8 PB (I : Int) (J : Int) σ.u rfl (HPR.out _ (((HFQ.out.trans fP).trans FV).trans σ.fr)).2
            obtain ⟨B, hB⟩ : ∃ B, B = hasP PB (I : Int) (J : Int) := ⟨_, rfl⟩
            simp only [← hB] at cI1 cH1
            clear hB
            have hne := Later.some V2
            go_wp2_with fail
            refine wp_region_grown (by kernel_rfl) (by kernel_rfl) ?_
            cases B
            · repeat (go_big_quiet_step (first | with_reducible exact Calls.grown_of (cI1 _) | with_reducible exact Calls.grown_of (cH1 _)))
              refine wpQuiet_nil ?_
              rintro _ ⟨σ2, rfl⟩
              have F2 := ((HFQ.out.trans fP).trans FV).trans σ2.fr
              clear x0 x1 cI1 cH1 hne
              go_wp2_with fail
              go_roundw
              case rel => exact ⟨k + 1, by omega, by go_num, F2⟩
              case measure => simp [intOf]; omega
            · repeat (go_big_quiet_step (first | with_reducible exact Calls.grown_of (cI1 _) | with_reducible exact Calls.grown_of (cH1 _)))
              refine wpQuiet_nil ?_
              rintro _ ⟨σ2, rfl⟩
              have F2 := ((HFQ.out.trans fP).trans FV).trans σ2.fr
              clear x0 x1 cI1 cH1 hne
              go_wp2_with fail
              go_roundw
              case rel => exact ⟨k + 1, by omega, by go_num, F2⟩
              case measure => simp [intOf]; omega
          · obtain ⟨W1, rfl⟩ : ∃ x, x = wr := ⟨_, rfl⟩
            have hf0 : Fr u12 W1 := hf
            go_wp2_with fail
            go_loopw [11] (fun i wq => ∃ k : Nat, k ≤ PB.length ∧ i = .int .i64 k ∧ Fr u12 wq) (fun i _ => PB.length - (intOf i).toNat)
            case atStart => exact ⟨0, Nat.zero_le _, rfl, hf0⟩
            case round =>
              obtain ⟨q, hq, rfl, hf⟩ := hrel
              by_cases hlt : q < PB.length
              · have hqi : (q : Int) < (PB.length : Int) := by omega
                obtain ⟨I, J, e, hIJ, hJN, hH, hlk⟩ := HPB.out q hlt
                have hIN : I < NN := by omega
                have hIi : (I : Int) < (NN : Int) := by omega
                obtain ⟨b, off, e2, c0, c1⟩ := prC (HPR.out _ hf).2 hlt
                cases e2
                rw [e] at c0 c1
                simp only [Nat.zero_add] at c0 c1
                have HC : Hid (∀ u, Fr wr u → u.cell? ⟨g8, q * 2, none⟩ = some (.int .i64 (I : Int)) ∧ u.cell? ⟨g8, q * 2 + 1, none⟩ = some (.int .i64 (J : Int))) := fun u f => ⟨f.cell c0, f.cell c1⟩
                have cH := hasPair_any _ _ c7 PA (I : Int) (J : Int) wr rfl (HPR.out _ hf).1
                rw [hH] at cH
                clear e hH
                go_wp2_with fail
                refine cH.mono ?_
                rintro x u20 ⟨rfl, f20⟩
                clear c0 c1 cH
                obtain ⟨c0, c1⟩ := HC.out _ f20
                have cl := HLK.out I hIN u20 (F12.trans (hf.trans f20))
                rw [hlk] at cl
                go_wp2_with fail
                go_roundw
                case rel => exact ⟨q + 1, by omega, by go_num, hf.trans f20⟩
                case measure => simp [intOf]; omega
              · go_wp2_with fail
                go_ret
                exact ⟨rfl, (F1.trans (F12.trans hf)).below⟩

theorem own : ownKnob Tryz.prog.godebug = none := by kernel_rfl
theorem laidOut : laidOutB Tryz.prog = true := by kernel_rfl
theorem met (os : Os) (args : Array Value) : laidMetH Tryz.prog Rows.fnRacesRow.laid ((World.doorLaid Tryz.prog 400 os).forCall (fun _ _ => 0) ⟨#[], args, []⟩).memory :=
  laidMetH_of_parts3 (fuel := 8) (laidMet_of_run' 8 (by kernel_rfl) (by kernel_rfl)) (by kernel_rfl) (by kernel_rfl)
theorem tables {W : World} (h : laidMetH Tryz.prog Rows.fnRacesRow.laid W) : Shapes W := by
  rw [MakeChecks.laidMetH_plain _ _ _ (by kernel_rfl)] at h
  obtain ⟨ps, hl, -⟩ := h
  exact shapes_of hl

set_option maxRecDepth 100000 in
theorem lifted (os : Os) (started : os.Started) (H : Type) (enc : TypeId × Value → H) :
    ReturnsInHanded {} Tryz.checked os 4 .any (fun w args => (Rows.fnRacesSpec.pre enc Tryz.prog Tryz.f4 [] false w args ∧ laidMetH Tryz.prog Rows.fnRacesRow.laid w) ∧ sizedMet enc Tryz.prog Tryz.f4 (OpenSpec.ofChange Rows.fnRacesSpec) false w args)
      (Rows.fnRacesSpec.post enc Tryz.prog Tryz.f4 false true false false) := by
  refine returnsInHanded_of_change_and (C := Tryz.checked) (X := fun w _ => laidMetH Tryz.prog Rows.fnRacesRow.laid w) (fun _ _ _ hh h => h.of_heap hh) own started (by kernel_rfl) Tryz.func4
    (ChangeSpec.witness_shaped (enc := enc) (C := Tryz.checked) (os := os) (X := fun w _ => laidMetH Tryz.prog Rows.fnRacesRow.laid w) false (World.doorLaid Tryz.prog 400 os) #[.slice none 0 0] 8 rfl (World.shaped_of_RefB (by kernel_rfl) (by kernel_rfl)) (by kernel_rfl) (by kernel_rfl) (by kernel_rfl) (met os _)) ?_
  intro W base args ds gs before hval0 hW _ _ hL _
  have hval : ∀ (j : Nat) t v, Tryz.f4.params[j]? = some t → args[j]? = some v → Value.okWide Tryz.prog W .any base t v := hval0
  have hW' := hW
  obtain ⟨p, q, hA0, hV, rfl, hfz, hnd⟩ := hW
  have hA : DataW.TrodAll enc Tryz.prog W 0 (fun _ => true) true Tryz.f4.params.toList args.toList ds p := hA0
  rw [Tryz.params4] at hA hval
  obtain ⟨v0, vs0, d0, ds0, p0, q0, hargs, rfl, rfl, h0, r0⟩ := trodAll_cons hA
  obtain ⟨rfl, rfl, rfl⟩ := trodAll_nil r0
  obtain rfl : args = #[v0] := by cases args; simp_all
  have k0 := h0
  have lt0 : ∀ x ∈ p0, x.block < W.heap.size := by obtain ⟨m, hm⟩ := k0; exact DataW.trod_lt m _ _ _ hm
  obtain ⟨a0, len0, cap0, rfl⟩ := okWide_slice Tryz.underlying22 (hval 0 22 v0 rfl rfl)
  obtain ⟨z0, w0⟩ : ∃ zs, IsRow .u8 W a0 len0 cap0 zs := by
    obtain ⟨fuel, hf⟩ := h0
    rcases open_ints Tryz.underlying22 Tryz.underlying5 (by kernel_rfl) hf with ⟨hcs, _⟩ | ⟨x, l, c, zs, hcs, _, hl, hm, hz, _, hcell, hwz⟩
    · simp [Value.cells] at hcs
      obtain ⟨rfl, rfl, rfl⟩ := hcs
      exact ⟨[], .inl ⟨rfl, rfl, rfl, rfl⟩⟩
    · simp [Value.cells] at hcs
      obtain ⟨rfl, rfl, rfl⟩ := hcs
      exact ⟨zs, .inr ⟨_, rfl, hl, hm, by simpa using hz, hcell, hwz⟩⟩
  clear hA0 hval0
  refine (walk a0 len0 cap0 z0 W w0 (tables hL)).mono fun e W' ⟨he, bel⟩ => ?_
  subst he
  match gs, hV with
  | [g1], hV =>
    exact ⟨_, rfl, _, _, _, [], _, _, hW', trodAll_mk1 (shut_bool Tryz.underlying4 _), (trodAll_cons_mk (Below.trod laidOut (by kernel_rfl) (of_decide_eq_true (by kernel_rfl)) k0 bel lt0) trodAll_mk0), Below.trodVars laidOut bel (by kernel_rfl) hV, bel.frame _, fun h => by cases h⟩

theorem over : Rows.fnRacesRow.holds Tryz.pinned (OpenSpec.ofChange Rows.fnRacesSpec) :=
  OpenClaim.holds_of_wide 4 Tryz.f4 rfl rfl rfl rfl rfl rfl rfl ⟨rfl, rfl, rfl, rfl, rfl⟩ rfl rfl rfl rfl rfl (by kernel_rfl) Tryz.func4 (by kernel_rfl)
    (of_decide_eq_true (by kernel_rfl)) (by unfold Func.isWrapper; first | (rw [if_pos (by decide +kernel)]; kernel_rfl) | (rw [if_neg (by decide +kernel)]; exact ⟨rfl, rfl⟩))
    (fun os started H enc _ => lifted os started H enc)

theorem carded : Rows.FnRacesCardSaid :=
  Claim7.holds_tied_plain_at .later [] [.data] true (true, "7639dd462047ea84c6becf31013f2a594706809ba1d62cbc5edc796178d488a3") false
    over (fun _ h => by cases h) (by kernel_rfl) (fun _ h => by cases h) fnRaces_row_tie rfl ⟨rfl, rfl⟩ (by kernel_rfl) rfl
    (fun f fn hf hfn => by
      obtain rfl : f = 4 := Option.some.inj ((show Tryz.prog.funcNamed "loop.example/g00720/laws.FnRaces" = some 4 by kernel_rfl).symm.trans hf) |>.symm
      obtain rfl : fn = Tryz.f4 := (Option.some.inj (Tryz.func4.symm.trans hfn)).symm
      exact ⟨by kernel_rfl, fun j t ht => by
        rw [Tryz.params4] at ht
        have hm : t ∈ [22] := by simpa using Array.mem_of_getElem? ht
        have hall : ([22].all fun u => !Tryz.prog.wantsStandIn u) = true := by kernel_rfl
        exact (show Tryz.prog.wantsStandIn t = false by simpa using List.all_eq_true.1 hall t hm)⟩)
    (by kernel_rfl)
end Go.Proofs.YtcofhmikdkkigaaGreatDoor.fnRaces
namespace Go.Proofs.YtcofhmikdkkigaaGreatDoor
theorem fnRaces_holds : Rows.FnRacesCardSaid := fnRaces.carded
end Go.Proofs.YtcofhmikdkkigaaGreatDoor
