/-
  The board's scene.
-/
import Derived.Test.YtihdablgnmkjnaaGreatDoorPileAR
import Derived.Test.YtihdablgnmkjnaaGreatDoorPileAO
import Derived.Deep.RegionHeld3
import Derived.Test.YtihdablgnmkjnaaGreatDoorPileAQ
import Derived.Test.YtihdablgnmkjnaaGreatDoorPileAD
namespace Go.Proofs.YtihdablgnmkjnaaGreatDoor
open Go.RowKit

theorem own_row {w : World} {base g n c sz : Nat} {T : TypeId} {xs : List Value} (h : w.ownsRow base T sz (.slice (some ⟨g, 0, none⟩) n c) n xs) : RowAt w g T := by
  rcases h.2 with ⟨e, _⟩ | ⟨g', cap', cur, e, -, hc, -⟩
  · cases e
  · cases e; exact ⟨cur, hc⟩
theorem RowAt.keep {w w' : World} {g : Nat} {T : TypeId} {row : Option Nat} (h : RowAt w g T) (k : w.grownBy w' row) (hne : some g ≠ row) : RowAt w' g T := by
  obtain ⟨cur, hc⟩ := h
  exact ⟨cur, (k.block g (Array.getElem?_eq_some_iff.1 hc).1 hne).trans hc⟩
/-- A scene whose lists are rows of their own, no two in one block. -/
structure ScO (base : Nat) (w : World) (s : Sv) (m : Scn) (gl gc gn go : Nat) (lvs : List Lv) : Prop where
  e1 : s.lo = some ⟨gl, 0, none⟩
  e2 : s.co = some ⟨gc, 0, none⟩
  e3 : s.no = some ⟨gn, 0, none⟩
  e4 : s.oo = some ⟨go, 0, none⟩
  ll : s.ll = lvs.length
  rl : ReadsG layL w (some ⟨gl, 0, none⟩) lvs
  ol : LO w gl base lvs
  tl : totL lvs ≤ 1000
  rc : RowAt w gc 87
  rn : RowAt w gn 90
  oo : OwnI w base (.slice (some ⟨go, 0, none⟩) s.ol s.oc) m.os
  ne : gc ≠ gn ∧ gc ≠ go ∧ gn ≠ go
  ap : ∀ x, BlkL gl lvs x → x ≠ gc ∧ x ≠ gn ∧ x ≠ go
  lo : ∀ x, BlkL gl lvs x ∨ x = gc ∨ x = gn ∨ x = go → base ≤ x ∧ x < w.heap.size
theorem LO.keep {w w' : World} {g base : Nat} {lvs : List Lv} {row : Option Nat} (h : LO w g base lvs) (k : w.grownBy w' row) (hr : ∀ x, row = some x → ¬ BlkL g lvs x) : LO w' g base lvs := by
  refine ⟨h.row.keep k (fun e => hr g e.symm (.inl rfl)), fun j hj => ?_, h.ap⟩
  obtain ⟨gj, a1, a2, xs, a3, a4⟩ := h.own j hj
  refine ⟨gj, a1, a2, xs, a3, a4.keep k (.inr ?_)⟩
  simp only [Value.ownBlock]
  exact fun e => hr gj e.symm (.inr ⟨j, hj, a1⟩)
theorem ScO.fr {base : Nat} {w w' : World} {s : Sv} {m : Scn} {gl gc gn go : Nat} {lvs : List Lv} (h : ScO base w s m gl gc gn go lvs) (k : Fr w w') : ScO base w' s m gl gc gn go lvs :=
  { h with rl := h.rl.fr k, ol := h.ol.keep k (by simp), rc := h.rc.keep k (by simp), rn := h.rn.keep k (by simp), oo := h.oo.fr k, lo := fun x hx => ⟨(h.lo x hx).1, Nat.lt_of_lt_of_le (h.lo x hx).2 k.size⟩ }
theorem ScO.keep {base : Nat} {w w' : World} {s : Sv} {m : Scn} {gl gc gn go : Nat} {lvs : List Lv} {row : Nat} (h : ScO base w s m gl gc gn go lvs) (k : w.grownBy w' (some row)) (hr : row < base ∨ w.heap.size ≤ row) : ScO base w' s m gl gc gn go lvs := by
  have hx : ∀ x, BlkL gl lvs x ∨ x = gc ∨ x = gn ∨ x = go → row ≠ x := fun x q e => by
    have := h.lo x q
    omega
  have n1 := hx gl (.inl (.inl rfl))
  have n2 := hx gc (.inr (.inl rfl))
  have n3 := hx gn (.inr (.inr (.inl rfl)))
  have n4 := hx go (.inr (.inr (.inr rfl)))
  exact { h with rl := h.rl.keep k (.inr (by simpa [blk] using fun e => n1 e.symm)), ol := h.ol.keep k (fun x e q => by cases e; exact hx _ (.inl q) rfl), rc := h.rc.keep k (by simpa using fun e => n2 e.symm), rn := h.rn.keep k (by simpa using fun e => n3 e.symm), oo := h.oo.keep k (.inr (by simpa [Value.ownBlock] using fun e => n4 e.symm)), lo := fun x hx => ⟨(h.lo x hx).1, Nat.lt_of_lt_of_le (h.lo x hx).2 k.size⟩ }
theorem ScO.lower {base base' : Nat} {w : World} {s : Sv} {m : Scn} {gl gc gn go : Nat} {lvs : List Lv} (h : ScO base w s m gl gc gn go lvs) (hb : base' ≤ base) : ScO base' w s m gl gc gn go lvs :=
  { h with ol := ⟨h.ol.row, fun j hj => by
      obtain ⟨gj, a1, a2, xs, a3, a4⟩ := h.ol.own j hj
      exact ⟨gj, a1, a2, xs, a3, a4.lower hb⟩, h.ol.ap⟩, oo := h.oo.lower hb, lo := fun x hx => ⟨Nat.le_trans hb (h.lo x hx).1, (h.lo x hx).2⟩ }
theorem totL_le : ∀ (xs : List Lv), (∀ x ∈ xs, x.rn ≤ 16) → totL xs ≤ 18 * xs.length
  | [], _ => by simp [totL]
  | x :: xs, h => by
    have h1 := h x (List.mem_cons_self ..)
    have h2 := totL_le xs (fun y hy => h y (List.mem_cons_of_mem _ hy))
    simp only [totL, List.length_cons]
    omega

set_option maxRecDepth 20000 in
set_option maxHeartbeats 4000000 in
theorem scene_any {lo : Nat × Nat} {b b1 b2 b3 b4 n : Nat} {m : Scn} (w : World) (h : BoardW lo w b b1 b2 b3 b4 n m) (hm : scB m = true) (hn : n ≤ 4000000) :
    Calls Tryz.prog 42 #[.pointer (some ⟨b, 0, none⟩)] w fun e w' => ∃ s : Sv, e = .returned (.agg #[.int .i64 s.g, .slice s.lo s.ll s.lc, .slice s.co s.cl s.cc, .slice s.no s.nl s.nc, .slice s.oo s.ol s.oc]) ∧ ScR (fun x => w.heap.size ≤ x ∧ x < w'.heap.size) w' s m ∧ Fr w w' ∧ ∃ gl gc gn go ys, ScO w.heap.size w' s m gl gc gn go ys := by
  obtain ⟨fl, lvs, M1, hLk, hv1, hk1⟩ := h.lks hm
  obtain ⟨r1, r2, r3, r4⟩ := sc_rise hm
  have HSC := (scB_iff m).1 hm
  have f0 := Fr.alloc w (.cells #[.int .i64 0, .slice none 0 0, .slice none 0 0, .slice none 0 0, .slice none 0 0] 29)
  have k0 := ScK.new w ⟨0, none, 0, 0, none, 0, 0, none, 0, 0, none, 0, 0⟩
  simp only at k0
  have hlen : ∀ (xs : List Int), xs.Pairwise (· < ·) → (∀ x ∈ xs, 0 ≤ x ∧ x ≤ 15) → xs.length ≤ 16 := fun xs q1 q2 => by
    have := rise_len xs 0 15 q1 q2 (by omega)
    omega
  have o1 : ∀ x ∈ m.ls.map Lk.o, 0 ≤ x ∧ x ≤ 15 := fun x hx => by
    obtain ⟨l, hl, rfl⟩ := List.mem_map.1 hx
    exact ((lkB_iff _ _).1 (HSC.2.1.1 l hl)).2.1
  have o2 : ∀ x ∈ m.cs.map Ch.o, 0 ≤ x ∧ x ≤ 15 := fun x hx => by
    obtain ⟨l, hl, rfl⟩ := List.mem_map.1 hx
    exact (chB_in (HSC.2.2.1.1 l hl)).1
  have o3 : ∀ x ∈ m.gs.map Ct.o, 0 ≤ x ∧ x ≤ 15 := fun x hx => by
    obtain ⟨l, hl, rfl⟩ := List.mem_map.1 hx
    exact (ctB_in (HSC.2.2.2.1.1 l hl)).1
  have o4 := HSC.2.2.2.2.1
  have n1 : lvs.length ≤ 16 := by have := hlen _ r1 o1; rw [hLk.len]; simpa using this
  have n2 : m.cs.length ≤ 16 := by simpa using hlen _ r2 o2
  have n3 : m.gs.length ≤ 16 := by simpa using hlen _ r3 o3
  have n4 : m.os.length ≤ 16 := hlen _ r4 o4
  have cL := fun u (f : Fr w u) => ordL_any b1 n fl lvs u (M1.fr f) (by rw [lk_os _ _ hLk]; exact r1) hk1 hv1 (fun o ho => by rw [lk_os _ _ hLk] at ho; exact i64_small (by have := o1 o ho; omega)) hn (by omega)
  have cC := fun u (f : Fr w u) => ordC_any b2 n _ m.cs u (h.m2.fr f) r2 (fun o => by rw [mem_find]; simp) (fun j hj => by rw [find_of_mem Ch.o m.cs r2 _ (List.getElem_mem hj)]; rfl) (fun o ho => i64_small (by have := o2 o ho; omega)) hn (by omega)
  have cN := fun u (f : Fr w u) => ordN_any b3 n _ m.gs u (h.m3.fr f) r3 (fun o => by rw [mem_find]; simp) (fun j hj => by rw [find_of_mem Ct.o m.gs r3 _ (List.getElem_mem hj)]; rfl) (fun o ho => i64_small (by have := o3 o ho; omega)) hn (by omega)
  have cI := fun u (f : Fr w u) => ordI_any b4 n _ m.os u (h.m4.fr f) r4 (fun o => by simp only [find_self]; by_cases q : o ∈ m.os <;> simp [q]) (fun j hj => by simp only [find_self]; rw [if_pos (List.getElem_mem hj)]; rfl) (fun o ho => i64_small (by have := o4 o ho; omega)) hn (by omega)
  have HC : Hid (∀ u, Fr w u → u.cell? ⟨b, 0, none⟩ = some (.int .i64 m.g) ∧ u.cell? ⟨b, 1, none⟩ = some (.map (some b1)) ∧ u.cell? ⟨b, 2, none⟩ = some (.map (some b2)) ∧ u.cell? ⟨b, 3, none⟩ = some (.map (some b3)) ∧ u.cell? ⟨b, 4, none⟩ = some (.map (some b4))) := fun u f => ⟨f.cell h.toM.c0, f.cell h.toM.c1, f.cell h.toM.c2, f.cell h.toM.c3, f.cell h.toM.c4⟩
  have HG : Hid (I64 m.g) := i64_small (by have := HSC.1; omega)
  have HIC : Hid (∀ c ∈ m.cs, I64 c.o ∧ I64 c.cap ∧ I64 c.sent ∧ I64 c.got) := fun c hc => by
    have := chB_in (HSC.2.2.1.1 c hc)
    exact ⟨i64_small (by omega), i64_small (by omega), i64_small (by omega), i64_small (by omega)⟩
  have HIN : Hid (∀ c ∈ m.gs, I64 c.o ∧ I64 c.n) := fun c hc => by
    have := ctB_in (HSC.2.2.2.1.1 c hc)
    exact ⟨i64_small (by omega), i64_small (by omega)⟩
  have HRD : Hid (∀ l ∈ m.ls, l.rd.length ≤ 16) := fun l hl => by
    obtain ⟨⟨q1, q2⟩, -⟩ := (lkB_iff _ _).1 (HSC.2.1.1 l hl)
    have := rise_len l.rd 0 15 q2 (fun x hx => by have := q1 x hx; have := HSC.1; omega) (by omega)
    omega
  have hblt := h.blt
  clear h hm M1 hv1 hk1 HSC o1 o2 o3 o4 r1 r2 r3 r4 hlen
  obtain ⟨c0, c1, c2, c3, c4⟩ := HC.out _ f0
  go_enter Tryz.func42, Tryz.ntmps42
  go_wp2_with fail
  obtain ⟨W, hW⟩ : ∃ W, W = w.alloc (.cells #[.int .i64 0, .slice none 0 0, .slice none 0 0, .slice none 0 0, .slice none 0 0] 29) := ⟨_, rfl⟩
  rw [← hW] at f0 k0 c0 c1 c2 c3 c4 ⊢
  obtain ⟨rb, hrb⟩ : ∃ rb, rb = w.heap.size := ⟨_, rfl⟩
  rw [← hrb] at k0 ⊢
  have HRB : Hid (rb = w.heap.size) := hrb
  have hrbb : rb ≠ b := by omega
  clear hW hrb
  refine (cL W f0).mono ?_
  rintro x w1 ⟨v1, rfl, O1, f1⟩
  obtain ⟨g1, cap1, rfl, O1, hl1⟩ := O1
  clear c0 c1 c2 c3 c4 cL
  have F1 := f0.trans f1
  have k1 := k0.fr f1
  have hX : LX w w1 g1 0 lvs lvs m.ls := by
    have hb := O1.lt g1 rfl
    rcases O1.2 with ⟨e, _⟩ | ⟨g', cap', cur, e, -, hc, -⟩
    · cases e
    · cases e
      refine ⟨F1, by have := f0.size; omega, ⟨cur, hc⟩, own_readsG O1 (by omega), hLk.len, fun j _ _ q => by omega, fun j _ _ _ => rfl, fun j _ _ q => by omega, fun i j _ _ q => by omega⟩
  have hgr : g1 ≠ rb := by
    have := O1.lt g1 rfl
    have := k0.lt
    omega
  clear f0 k0 f1 O1
  go_wp2_with fail
  go_loopw [13] (fun i wr => ∃ (k : Nat) (ys : List Lv), k ≤ lvs.length ∧ i = .int .i64 k ∧ LX w wr g1 k lvs ys m.ls ∧ ScK wr rb ⟨0, none, 0, 0, none, 0, 0, none, 0, 0, none, 0, 0⟩) (fun i _ => lvs.length - (intOf i).toNat)
  case atStart => exact ⟨0, lvs, Nat.zero_le _, rfl, hX, k1⟩
  case round =>
    clear hX k1
    obtain ⟨k, ys, hk, rfl, hX, k1⟩ := hrel
    by_cases hlt : k < lvs.length
    · have hy : k < ys.length := by rw [hX.len, ← hLk.len]; exact hlt
      have hls : k < m.ls.length := by rw [← hLk.len]; exact hlt
      have he := hX.old k hy hlt (Nat.le_refl _)
      obtain ⟨bq, off, e0, d0, d1, d2⟩ := lv_at hX.rd k hy
      simp only [Option.some.injEq, Addr.mk.injEq, and_true] at e0
      obtain ⟨rfl, rfl⟩ := e0
      rw [he] at d0 d1 d2
      simp only [Nat.zero_add] at d0 d1 d2
      have hLR := (hLk.at_ k hlt hls).fr hX.fr
      have HPUT : Hid (∀ u g2 c2, Fr wr u → OwnI u w.heap.size (.slice (some ⟨g2, 0, none⟩) m.ls[k].rd.length c2) m.ls[k].rd → (wr.heap.size ≤ g2 ∧ g2 < u.heap.size) → LX w (u.setCell ⟨g1, k * 3 + 2, none⟩ (.slice (some ⟨g2, 0, none⟩) m.ls[k].rd.length c2)) g1 (k + 1) lvs (ys.set k { ys[k] with ro := some ⟨g2, 0, none⟩, rn := m.ls[k].rd.length, rc := c2 }) m.ls) := fun u g2 c2 fu R q => by
        have hg := hX.glt
        have hs := hX.ge
        exact (hX.grow fu).put hy hls hlt (((hLk.at_ k hlt hls).fr (hX.fr.trans fu)).mono (fun _ _ => trivial)) R (fun j h1 hj => by
          obtain ⟨gj, a1, a2, a3, a4⟩ := hX.ow j h1 (by rw [← hX.len]; exact h1) hj
          rw [a1]
          intro e
          simp only [Option.some.injEq, Addr.mk.injEq, and_true] at e
          omega) ⟨by omega, by omega, by omega⟩
      have HFZ : Hid (∀ u, Fr wr u → u.frozen? ⟨g1, k * 3 + 2, none⟩ = false ∧ ∃ x, u.cell? ⟨g1, k * 3 + 2, none⟩ = some x) := fun u fu => by
        obtain ⟨cur, hc⟩ := (hX.grow fu).row
        exact ⟨frozen_of_row u g1 _ _ _ hc, _, fu.cell d2⟩
      have HSZ : Hid (w.heap.size ≤ wr.heap.size) := hX.fr.size
      have hrn := hLR.rn
      have hrd := hLR.rd
      have hrc := hLR.rc
      have hrs := hLR.sz
      obtain ⟨rd, hrdd⟩ : ∃ rd, rd = m.ls[k].rd := ⟨_, rfl⟩
      rw [← hrdd] at hrn hrd hrs HPUT
      clear hrdd hLR he
      obtain ⟨e, hee⟩ : ∃ e, e = lvs[k] := ⟨_, rfl⟩
      rw [← hee] at d0 d1 d2 hrn hrd hrc
      clear hee
      obtain ⟨zo, zw, zr, zn, zk⟩ := e
      simp only at d0 d1 d2 hrn hrd hrc
      subst hrn
      have fA := Fr.alloc wr (.cells #[.int .i64 zo, .int .i64 zw, .slice zr rd.length zk] 47)
      have fB := Fr.alloc (wr.alloc (.cells #[.int .i64 zo, .int .i64 zw, .slice zr rd.length zk] 47)) (.cells #[] 2)
      have hO := own_empty (wr.alloc (.cells #[.int .i64 zo, .int .i64 zw, .slice zr rd.length zk] 47)) wr.heap.size (by simp)
      have hR := hrd.fr (fA.trans fB)
      have fAB := fA.trans fB
      simp only [World.size_alloc] at hO
      clear fA fB hrd
      go_wp2_with (at_builtin; refine appI _ rfl _ _ rfl wr.heap.size _ _ rd rfl hO zr rd.length zk rfl rfl hrc hR (by simp; omega) (by simp; omega) ?_; intro v4 w4 hv4 hg4; have fu : Fr wr w4 := fAB.then hg4 hO.blk; have hb4 := hv4.blk; obtain ⟨g2, c2, rfl, ho4⟩ := hv4; have hb4 := hb4 g2 rfl; obtain ⟨z1, z2, z3⟩ := HFZ.out w4 fu)
      go_roundw
      case rel => exact ⟨k + 1, _, by omega, by go_num, HPUT.out w4 g2 c2 fu (by simpa using ho4.lower (Nat.le_trans HSZ.out (Nat.le_refl _))) ⟨hb4, (ho4.1.lt g2 rfl).2⟩, (k1.fr fu).keep (grown_set _ _ _ _) (by simpa using fun q => hgr q)⟩
      case measure => simp [intOf]; omega
    · have hke : k = lvs.length := by omega
      have HLK : Hid (LksR (fun x => w.heap.size < x ∧ x < wr.heap.size ∧ x ≠ g1) wr ys m.ls ∧ ReadsG layL wr (some ⟨g1, 0, none⟩) ys ∧ lvs.length = ys.length) := ⟨⟨hX.len, fun j h1 h2 => hX.new j h1 h2 (by rw [hke, hLk.len]; exact h2)⟩, hX.rd, by rw [hX.len, hLk.len]⟩
      have HOW : Hid (∀ j (h1 : j < ys.length), ∃ gj, ys[j].ro = some ⟨gj, 0, none⟩ ∧ gj ≠ g1 ∧ gj < wr.heap.size ∧ ∃ h2 : j < m.ls.length, OwnI wr w.heap.size (.slice (some ⟨gj, 0, none⟩) ys[j].rn ys[j].rc) m.ls[j].rd) := fun j h1 => by
        have h2 : j < m.ls.length := by rw [← hX.len]; exact h1
        obtain ⟨gj, a1, a2, a3, a4⟩ := hX.ow j h1 h2 (by rw [hke, hLk.len]; exact h2)
        exact ⟨gj, a1, a2, a3, h2, a4⟩
      have HAP : Hid (∀ i j (h1 : i < ys.length) (h2 : j < ys.length), i ≠ j → ys[i].ro ≠ ys[j].ro) := fun i j h1 h2 hij => hX.ap i j h1 h2 (by rw [hke, hLk.len, ← hX.len]; exact h1) (by rw [hke, hLk.len, ← hX.len]; exact h2) hij
      have HRW : Hid (RowAt wr g1 47) := hX.row
      have hgl := hX.glt
      have hge := hX.ge
      have FW := hX.fr
      clear hX hLk
      subst hke
      have HK : Hid (∀ u, Fr wr u → ScK u rb ⟨0, none, 0, 0, none, 0, 0, none, 0, 0, none, 0, 0⟩) := fun u f => k1.fr f
      have hrl := k1.lt
      obtain ⟨mg, hmg⟩ : ∃ g, g = m.g := ⟨_, rfl⟩
      rw [← hmg] at HC
      have HMG : Hid (mg = m.g) := hmg
      clear hmg k1
      obtain ⟨c0, c1, c2, c3, c4⟩ := HC.out wr FW
      have fD := FW.trans (Fr.drew wr)
      go_wp2_with fail
      go_region_held3 (fun u => u.cell? ⟨b, 0, none⟩ = some (.int .i64 mg) ∧ u.cell? ⟨b, 1, none⟩ = some (.map (some b1)) ∧ u.cell? ⟨b, 2, none⟩ = some (.map (some b2)) ∧ u.cell? ⟨b, 3, none⟩ = some (.map (some b3)) ∧ u.cell? ⟨b, 4, none⟩ = some (.map (some b4))) (go_keep)
        (first | (go_at_call 106; refine (cC _ fD).mono ?_; rintro x u1 ⟨v1, rfl, O1, f1⟩; have q1 := (Fr.drew wr).trans f1; obtain ⟨p0, p1, p2, p3, p4⟩ := HC.out _ (FW.trans q1); obtain ⟨ga, ca, rfl, O1, hla⟩ := O1) | (go_at_call 107; refine (cN _ (FW.trans q1)).mono ?_; rintro x u2 ⟨v2, rfl, O2, f2⟩; have q2 := q1.trans f2; obtain ⟨s0, s1, s2, s3, s4⟩ := HC.out _ (FW.trans q2); obtain ⟨gb, cb, rfl, O2, hlb⟩ := O2) | (go_at_call 108; refine (cI _ (FW.trans q2)).mono ?_; rintro x u3 ⟨v3, rfl, O3, f3⟩; have q3 := q2.trans f3; obtain ⟨t0, t1, t2, t3, t4⟩ := HC.out _ (FW.trans q3); obtain ⟨gc, cc, rfl, O3⟩ := O3; obtain ⟨j0, j1, j2, j3, j4⟩ := (HK.out u3 q3).at; simp only at j0 j1 j2 j3 j4; have jf := fun i => (HK.out u3 q3).free i))
      clear c0 c1 c2 c3 c4 p0 p1 p2 p3 p4 s0 s1 s2 s3 s4 t0 t1 t2 t3 t4
      go_wp2_with fail
      have ta := O1.lt ga rfl
      have tb := O2.lt gb rfl
      have tc := O3.1.lt gc rfl
      have k5 := put5 u3 rb (.int .i64 mg) (.slice (some ⟨g1, 0, none⟩) lvs.length cap1) (.slice (some ⟨ga, 0, none⟩) m.cs.length ca) (.slice (some ⟨gb, 0, none⟩) m.gs.length cb) (.slice (some ⟨gc, 0, none⟩) m.os.length cc)
      have z1 := f1.size
      have z2 := f2.size
      have z3 := f3.size
      have z5 := k5.size
      have z6 := FW.size
      have zd : wr.drew.heap.size = wr.heap.size := rfl
      have FK : Fr w u3 := FW.trans q3
      have HRB := HRB.out
      obtain ⟨l1, l2, l3⟩ := HLK.out
      have R1 := own_readsG O1 hla
      have R2 := own_readsG O2 hlb
      have R3 := O3.reads
      refine bodyPost_ret (v := .agg #[.int .i64 mg, .slice (some ⟨g1, 0, none⟩) lvs.length cap1, .slice (some ⟨ga, 0, none⟩) m.cs.length ca, .slice (some ⟨gb, 0, none⟩) m.gs.length cb, .slice (some ⟨gc, 0, none⟩) m.os.length cc]) (by simp [results, Tryz.results42, go_sem, j0, j1, j2, j3, j4]) rfl ⟨⟨mg, some ⟨g1, 0, none⟩, lvs.length, cap1, some ⟨ga, 0, none⟩, m.cs.length, ca, some ⟨gb, 0, none⟩, m.gs.length, cb, some ⟨gc, 0, none⟩, m.os.length, cc⟩, rfl, ?_, FK.then k5 (fun j hj => by simp only [Option.some.injEq] at hj; omega), g1, ga, gb, gc, ys, ?_⟩
      have ll := l1.len
      rotate_left
      · have hbx : ∀ x, BlkL g1 ys x → x < wr.heap.size ∧ w.heap.size ≤ x ∧ x ≠ rb := by
          rintro x (rfl | ⟨j, hj, e⟩)
          · exact ⟨hgl, by omega, hgr⟩
          · obtain ⟨gj, a1, a2, a3, h2, a4⟩ := HOW.out j hj
            rw [a1] at e
            simp only [Option.some.injEq, Addr.mk.injEq, and_true] at e
            subst e
            have b1 := (l1.at_ j hj h2).bl gj (by rw [a1]; rfl)
            exact ⟨a3, by omega, by omega⟩
        refine { e1 := rfl, e2 := rfl, e3 := rfl, e4 := rfl, ll := l3, rl := (l2.fr q3).keep k5 (.inr (by simp [blk]; omega)), ol := ?_, tl := ?_, rc := ((own_row O1).keep (f2.trans f3) (by simp)).keep k5 (by simp; omega), rn := ((own_row O2).keep f3 (by simp)).keep k5 (by simp; omega), oo := (O3.lower (by omega)).keep k5 (.inr (by simp [Value.ownBlock]; omega)), ne := ⟨by omega, by omega, by omega⟩, ap := fun x hx => ?_, lo := fun x hx => ?_ }
        · exact LO.keep (LO.keep ⟨HRW.out, fun j hj => by
            obtain ⟨gj, a1, a2, a3, h2, a4⟩ := HOW.out j hj
            exact ⟨gj, a1, a2, m.ls[j].rd, ((l1.at_ j hj h2).rn).symm, a4⟩, HAP.out⟩ q3 (by simp)) k5 (fun x hx q => by
              simp only [Option.some.injEq] at hx
              exact (hbx x q).2.2 hx.symm)
        · have := totL_le ys (fun y hy => by
            obtain ⟨j, hj, rfl⟩ := List.mem_iff_getElem.1 hy
            have h2 : j < m.ls.length := l1.len ▸ hj
            rw [(l1.at_ j hj h2).rn]
            exact HRD.out _ (List.getElem_mem h2))
          omega
        · have := hbx x hx
          exact ⟨by omega, by omega, by omega⟩
        · rcases hx with hx | hx | hx | hx
          · have := hbx x hx
            exact ⟨by omega, by omega⟩
          · omega
          · omega
          · omega
      exact { g := HMG.out, ig := HG.out, lks := ⟨ys, (l2.fr q3).keep k5 (.inr (by simp [blk]; omega)), l3, ⟨ll, fun j h1 h2 => (((l1.at_ j h1 h2).fr q3).keep k5 (fun x hx => by cases hx; exact fun q => by omega)).mono (fun x q => ⟨by omega, by omega⟩)⟩⟩,
              chs := (R1.fr (f2.trans f3)).keep k5 (.inr (by simp [blk]; omega)), cl := rfl, cts := (R2.fr f3).keep k5 (.inr (by simp [blk]; omega)), nl := rfl, ons := R3.keep k5 (.inr (by simp [blk]; omega)), ol := rfl,
              bl := fun x hx => by simp only [blk, Option.map_some, Option.some.injEq] at hx; omega, bc := fun x hx => by simp only [blk, Option.map_some, Option.some.injEq] at hx; omega, bn := fun x hx => by simp only [blk, Option.map_some, Option.some.injEq] at hx; omega, bo := fun x hx => by simp only [blk, Option.map_some, Option.some.injEq] at hx; omega,
              zo := fun q => by simp at q, sl := by omega, sc := by omega, sn := by omega, so := by omega, ic := HIC.out, inn := HIN.out }
end Go.Proofs.YtihdablgnmkjnaaGreatDoor
/-
  The program's SceneAfter; legal parts of legal parts.
-/
namespace Go.Proofs.YtihdablgnmkjnaaGreatDoor
open Go.RowKit

theorem leg_ok : ∀ (es : List Ev) (m : Scn), scB m = true → scB (legS m es).1 = true
  | [], m, h => h
  | e :: es, m, h => by
    by_cases q : codeIn m e = 0
    · rw [leg_go q]; exact leg_ok es _ (do_ok q)
    · rw [leg_no q]; exact h
theorem leg_len : ∀ (es : List Ev) (m : Scn), (legS m es).2.1 ≤ es.length
  | [], m => by simp [legS]
  | e :: es, m => by
    by_cases q : codeIn m e = 0
    · rw [leg_go q]
      have := leg_len es (doS m e)
      simp only [List.length_cons]
      omega
    · rw [leg_no q]; simp
/-- The code is 0 just where all is legal. -/
theorem leg_code : ∀ (es : List Ev) (m : Scn), (legS m es).2.2 = 0 ↔ (legS m es).2.1 = es.length
  | [], m => by simp [legS]
  | e :: es, m => by
    by_cases q : codeIn m e = 0
    · rw [leg_go q]
      have := leg_code es (doS m e)
      simp only [List.length_cons]
      omega
    · rw [leg_no q]
      simp [q]
/-- A first part of the legal part is legal, whole; the next event can be done. -/
theorem leg_part : ∀ (es : List Ev) (m : Scn) (k : Nat), k ≤ (legS m es).2.1 → (legS m (es.take k)).2.1 = k ∧ (legS m (es.take k)).2.2 = 0 ∧ ∀ (h : k < es.length), k < (legS m es).2.1 → codeIn (legS m (es.take k)).1 es[k] = 0
  | es, m, 0, _ => by
    simp only [List.take_zero]
    refine ⟨rfl, rfl, fun h h2 => ?_⟩
    cases es with
    | nil => simp at h
    | cons e es =>
      by_cases q : codeIn m e = 0
      · exact q
      · rw [leg_no q] at h2; simp at h2
  | [], m, k + 1, h => by simp [legS] at h
  | e :: es, m, k + 1, h => by
    by_cases q : codeIn m e = 0
    · rw [leg_go q] at h ⊢
      simp only at h
      obtain ⟨h1, h2, h3⟩ := leg_part es (doS m e) k (by omega)
      rw [List.take_succ_cons, leg_go q]
      refine ⟨by simp only; omega, h2, fun hk hk2 => ?_⟩
      simp only [List.getElem_cons_succ]
      exact h3 (by simpa using hk) (by simp only at hk2; omega)
    · rw [leg_no q] at h; simp at h

/-- The scene behind the legal part, and whether it is all of it. -/
def aftS (es : List Ev) : Scn := if 300 < es.length then ⟨0, [], [], [], []⟩ else (legS scn0 es).1
def aftB (es : List Ev) : Bool := if 300 < es.length then false else decide ((legS scn0 es).2.2 = 0)
theorem scR_zero (B : Nat → Prop) (w : World) : ScR B w ⟨0, none, 0, 0, none, 0, 0, none, 0, 0, none, 0, 0⟩ ⟨0, [], [], [], []⟩ where
  g := rfl
  ig := ⟨by decide, by decide⟩
  lks := ⟨[], ReadsG.nil _ _ _, rfl, LksR.nil _ _⟩
  chs := ReadsG.nil _ _ _
  cl := rfl
  cts := ReadsG.nil _ _ _
  nl := rfl
  ons := Reads.nil _ _
  ol := rfl
  bl := inB_none _
  bc := inB_none _
  bn := inB_none _
  bo := inB_none _
  zo _ := rfl
  sl := by simp
  sc := by simp
  sn := by simp
  so := by simp
  ic c hc := by simp at hc
  inn c hc := by simp at hc

set_option maxRecDepth 20000 in
set_option maxHeartbeats 2000000 in
theorem implAfter_any (ao : Option Addr) (n c : Nat) (es : List Ev) (w : World) (hn : es.length = n) (h : ReadsE w ao es) (hs : Shapes w) (hab : ∀ k, blk ao = some k → k < w.heap.size) :
    Calls Tryz.prog 18 #[.slice ao n c] w fun x w' => ∃ s : Sv, x = .returned (.tuple #[.agg #[.int .i64 s.g, .slice s.lo s.ll s.lc, .slice s.co s.cl s.cc, .slice s.no s.nl s.nc, .slice s.oo s.ol s.oc], .bool (aftB es)]) ∧ ScR (fun x => w.heap.size ≤ x ∧ x < w'.heap.size) w' s (aftS es) ∧ Fr w w' ∧ (es.length ≤ 300 → ∃ gl gc gn go ys, ScO w.heap.size w' s (aftS es) gl gc gn go ys) ∧ (¬ es.length ≤ 300 → s = ⟨0, none, 0, 0, none, 0, 0, none, 0, 0, none, 0, 0⟩) := by
  have f0 := Fr.alloc w (.cells #[.int .i64 0, .slice none 0 0, .slice none 0 0, .slice none 0 0, .slice none 0 0] 29)
  have k0 := ScK.new w ⟨0, none, 0, 0, none, 0, 0, none, 0, 0, none, 0, 0⟩
  simp only at k0
  have cT := fun u => isTrace_any ao n c u
  by_cases hb : es.length ≤ 300
  · have cP := legalPartOf_any ao n c es _ hn (h.fr f0) hb (hs.fr f0) (fun k hk => by have := hab k hk; have := f0.size; omega)
    have e1 : aftS es = (legS scn0 es).1 := if_neg (by omega)
    have e3 : aftB es = decide ((legS scn0 es).2.2 = 0) := if_neg (by omega)
    have e2 : decide ((n : Int) ≤ 300) = true := by simp; omega
    have HO : Hid (scB (legS scn0 es).1 = true) := leg_ok es scn0 (by decide)
    rw [e1, e3]
    simp only [e2] at cT
    have HLE : Hid (es.length ≤ 300) := hb
    clear e1 e2 e3 hb h hs hab hn
    obtain ⟨z, hz⟩ : ∃ z : Int, z = (legS scn0 es).2.1 := ⟨_, rfl⟩
    obtain ⟨q, hq⟩ : ∃ z : Int, z = (legS scn0 es).2.2 := ⟨_, rfl⟩
    obtain ⟨M, hM⟩ : ∃ z, z = (legS scn0 es).1 := ⟨_, rfl⟩
    simp only [← hz, ← hq, ← hM] at cP HO
    rw [← hq, ← hM]
    clear hz hq hM
    go_enter Tryz.func18, Tryz.ntmps18
    go_wp2_with fail
    refine (cT _).mono ?_
    rintro e u0 ⟨rfl, rfl⟩
    clear cT
    go_wp2_with fail
    refine (cP).mono ?_
    rintro e u1 ⟨lo, b, b1, b2, b3, b4, rfl, Bd, hb1, f1⟩
    have fA := Fr.alloc u1 (.cells #[.int .i64 z, .int .i64 q, .pointer (some ⟨b, 0, none⟩)] 101)
    have hP : PartAt (u1.alloc (.cells #[.int .i64 z, .int .i64 q, .pointer (some ⟨b, 0, none⟩)] 101)) u1.heap.size z q b := heap_alloc_new u1 _
    have hrl := k0.lt
    have hs1 := f1.size
    clear cP
    go_wp2_with fail
    obtain ⟨V, hV⟩ : ∃ V, V = u1.alloc (.cells #[.int .i64 z, .int .i64 q, .pointer (some ⟨b, 0, none⟩)] 101) := ⟨_, rfl⟩
    rw [← hV] at fA hP ⊢
    have hne : w.heap.size ≠ u1.heap.size := by omega
    obtain ⟨pb, hpb⟩ : ∃ pb, pb = u1.heap.size := ⟨_, rfl⟩
    rw [← hpb] at hP hne ⊢
    have hpl : w.heap.size < pb := by omega
    obtain ⟨rb, hrb⟩ : ∃ rb, rb = w.heap.size := ⟨_, rfl⟩
    rw [← hrb] at k0 hne hpl ⊢
    have HRB : Hid (rb = w.heap.size) := hrb
    have F1 := f0.trans (f1.trans fA)
    have G1 := f1.trans fA
    have k1 := k0.fr G1
    clear hV hpb hrb k0 hrl hs1
    have cS := fun u (f : Fr V u) => scene_any u ((Bd.fr fA).fr f) HO.out (by omega)
    have HQ : Hid (∀ u, Fr V u → u.cell? ⟨pb, 0, none⟩ = some (.int .i64 z) ∧ u.cell? ⟨pb, 1, none⟩ = some (.int .i64 q) ∧ u.cell? ⟨pb, 2, none⟩ = some (.pointer (some ⟨b, 0, none⟩)) ∧ ScK u rb ⟨0, none, 0, 0, none, 0, 0, none, 0, 0, none, 0, 0⟩) := fun u f => ⟨f.cell (cell_of_row V pb 0 _ _ _ hP), f.cell (cell_of_row V pb 1 _ _ _ hP), f.cell (cell_of_row V pb 2 _ _ _ hP), k1.fr f⟩
    obtain ⟨c0, c1, c2, -⟩ := HQ.out V (Fr.refl V)
    have hne2 : ¬ (rb = pb) := hne
    clear Bd hP k1 fA f1 hne
    go_region_held3 (fun u => u.cell? ⟨pb, 0, none⟩ = some (.int .i64 z) ∧ u.cell? ⟨pb, 1, none⟩ = some (.int .i64 q) ∧ u.cell? ⟨pb, 2, none⟩ = some (.pointer (some ⟨b, 0, none⟩))) (go_keep)
      (first | (go_at_call 42; refine (cS _ (Fr.drew V)).mono ?_; rintro x u3 ⟨⟨sg, lo1, ll1, lc1, co1, cl1, cc1, no1, nl1, nc1, oo1, ol1, oc1⟩, rfl, S3, f3, gl, gc, gn, go, ys, SO⟩; have q3 := (Fr.drew V).trans f3; obtain ⟨p0, p1, p2, k3⟩ := HQ.out _ q3; obtain ⟨j0, j1, j2, j3, j4⟩ := k3.at; simp only at j0 j1 j2 j3 j4; have jf := fun i => k3.free i))
    clear c0 c1 c2 p0 p1 p2 k3
    have hqb : (q == 0) = decide (q = 0) := by by_cases hq0 : q = 0 <;> simp [hq0]
    have S3 : Hid _ := S3
    have SO : Hid _ := SO
    go_wp2_with fail
    have k5 := put5 u3 rb (.int .i64 sg) (.slice lo1 ll1 lc1) (.slice co1 cl1 cc1) (.slice no1 nl1 nc1) (.slice oo1 ol1 oc1)
    have z5 := k5.size
    have zv : rb < V.heap.size := by have := F1.size; have := f0.size; have := HRB.out; have := G1.size; simp at *; omega
    have zd : V.drew.heap.size = V.heap.size := rfl
    refine bodyPost_ret (v := .tuple #[.agg #[.int .i64 sg, .slice lo1 ll1 lc1, .slice co1 cl1 cc1, .slice no1 nl1 nc1, .slice oo1 ol1 oc1], .bool (decide (q = 0))]) (by simp [results, Tryz.results18, go_sem, j0, j1, j2, j3, j4, hqb]) rfl ⟨⟨sg, lo1, ll1, lc1, co1, cl1, cc1, no1, nl1, nc1, oo1, ol1, oc1⟩, rfl, ?_, (F1.trans q3).then k5 (fun j hj => by simp only [Option.some.injEq] at hj; have := HRB.out; omega), fun _ => ⟨gl, gc, gn, go, ys, ?_⟩, fun q => absurd HLE.out q⟩
    rotate_left
    · exact (ScO.keep SO.out k5 (.inl (by omega))).lower (by have := HRB.out; omega)
    exact (S3.out.keep k5 (fun x hx => by cases hx; exact fun hq => by omega)).mono (fun x hx => ⟨by have := HRB.out; omega, by omega⟩)
  · have e1 : aftS es = ⟨0, [], [], [], []⟩ := if_pos (by omega)
    have e3 : aftB es = false := if_pos (by omega)
    have e2 : decide ((n : Int) ≤ 300) = false := by simp; omega
    rw [e1, e3]
    simp only [e2] at cT
    have HLE : Hid (¬ es.length ≤ 300) := hb
    clear e1 e2 e3 hb h hs hab hn
    obtain ⟨j0, j1, j2, j3, j4⟩ := k0.at
    simp only at j0 j1 j2 j3 j4
    have jf := fun i => k0.free i
    go_enter Tryz.func18, Tryz.ntmps18
    go_wp2_with fail
    refine (cT _).mono ?_
    rintro e u0 ⟨rfl, rfl⟩
    go_wp2_with fail
    refine bodyPost_ret (v := .tuple #[.agg #[.int .i64 0, .slice none 0 0, .slice none 0 0, .slice none 0 0, .slice none 0 0], .bool false]) (by simp [results, Tryz.results18, go_sem]) rfl ⟨⟨0, none, 0, 0, none, 0, 0, none, 0, 0, none, 0, 0⟩, rfl, scR_zero _ _, f0, fun q => absurd q HLE.out, fun _ => rfl⟩

set_option maxHeartbeats 1000000 in
theorem specAfter_any (ao : Option Addr) (n c : Nat) (es : List Ev) (w : World) (hn : es.length = n) (h : ReadsE w ao es) :
    Calls Tryz.prog 60 #[.slice ao n c] w fun x w' => ∃ (s : Sv) (B : Nat → Prop), x = .returned (.tuple #[.agg #[.int .i64 s.g, .slice s.lo s.ll s.lc, .slice s.co s.cl s.cc, .slice s.no s.nl s.nc, .slice s.oo s.ol s.oc], .bool (aftB es)]) ∧ ScR B w' s (aftS es) ∧ Fr w w' ∧ ∀ b, B b → w.heap.size ≤ b := by
  have f0 := Fr.alloc w (.cells #[.int .i64 0, .slice none 0 0, .slice none 0 0, .slice none 0 0, .slice none 0 0] 29)
  have k0 := ScK.new w ⟨0, none, 0, 0, none, 0, 0, none, 0, 0, none, 0, 0⟩
  simp only at k0
  subst hn
  by_cases hb : es.length ≤ 300
  · have cP := l5Scene_any ao es.length c es _ rfl (h.fr f0)
    have e1 : aftS es = (legS scn0 es).1 := if_neg (by omega)
    have e3 : aftB es = decide ((legS scn0 es).2.2 = 0) := if_neg (by omega)
    have hlc := leg_code es scn0
    have e2 : (es.length : Int) ≤ 300 := by omega
    rw [e1, e3]
    clear e1 e3 h
    obtain ⟨L, hL⟩ : ∃ L : Nat, L = (legS scn0 es).2.1 := ⟨_, rfl⟩
    obtain ⟨q, hq⟩ : ∃ z : Int, z = (legS scn0 es).2.2 := ⟨_, rfl⟩
    obtain ⟨M, hM⟩ : ∃ z, z = (legS scn0 es).1 := ⟨_, rfl⟩
    simp only [← hL, ← hq, ← hM] at cP hlc
    rw [← hq, ← hM]
    clear hL hq hM hb
    have hbb : ((L : Int) == (es.length : Int)) = decide (q = 0) := by
      by_cases q0 : q = 0
      · have := hlc.1 q0
        simp [q0, this]
      · have : ¬ ((L : Int) = (es.length : Int)) := fun e => q0 (hlc.2 (by omega))
        simp [q0, this]
    clear hlc
    go_enter Tryz.func60, Tryz.ntmps60
    go_wp2_with fail
    refine (cP).mono ?_
    rintro e u1 ⟨⟨sg, lo, ll, lc, co, cl, cc, no, nl, nc, oo, ol, oc⟩, B, rfl, S1, hB, f1⟩
    have fA := Fr.alloc u1 (.cells #[.int .i64 sg, .slice lo ll lc, .slice co cl cc, .slice no nl nc, .slice oo ol oc] 29)
    have kr := k0.fr (f1.trans fA)
    have F1 := f0.trans (f1.trans fA)
    have S2 := S1.fr fA
    have hsz := f0.size
    have hkl := k0.lt
    obtain ⟨j0, j1, j2, j3, j4⟩ := kr.at
    simp only at j0 j1 j2 j3 j4
    have jf := fun i => kr.free i
    have HS2 : Hid _ := S2
    have HB : Hid (∀ b, B b → w.heap.size < b) := fun b q => by have := (hB b q).1; omega
    clear S1 S2 hB cP k0 kr fA f1 f0
    go_wp2_with fail
    have k5 := put5 (u1.alloc (.cells #[.int .i64 sg, .slice lo ll lc, .slice co cl cc, .slice no nl nc, .slice oo ol oc] 29)) w.heap.size (.int .i64 sg) (.slice lo ll lc) (.slice co cl cc) (.slice no nl nc) (.slice oo ol oc)
    refine bodyPost_ret (v := .tuple #[.agg #[.int .i64 sg, .slice lo ll lc, .slice co cl cc, .slice no nl nc, .slice oo ol oc], .bool (decide (q = 0))]) (by simp [results, Tryz.results60, go_sem, j0, j1, j2, j3, j4]) rfl ⟨⟨sg, lo, ll, lc, co, cl, cc, no, nl, nc, oo, ol, oc⟩, B, rfl, ?_, ?_, fun b q => Nat.le_of_lt (HB.out b q)⟩
    · exact HS2.out.keep k5 (fun x hx => by cases hx; exact fun q => by have := HB.out _ q; omega)
    · exact F1.then k5 (fun j hj => by simp only [Option.some.injEq] at hj; omega)
  · have e1 : aftS es = ⟨0, [], [], [], []⟩ := if_pos (by omega)
    have e3 : aftB es = false := if_pos (by omega)
    have e2 : 300 < (es.length : Int) := by omega
    rw [e1, e3]
    clear e1 e3 h hb
    go_enter Tryz.func60, Tryz.ntmps60
    go_wp2_with fail
    refine bodyPost_ret (v := .tuple #[.agg #[.int .i64 0, .slice none 0 0, .slice none 0 0, .slice none 0 0, .slice none 0 0], .bool false]) (by simp [results, Tryz.results60, go_sem]) rfl ⟨⟨0, none, 0, 0, none, 0, 0, none, 0, 0, none, 0, 0⟩, (fun _ => False), rfl, scR_zero _ _, f0, fun b q => q.elim⟩
end Go.Proofs.YtihdablgnmkjnaaGreatDoor
/-
  The laws' marks on the scene with nothing in it; NewScene of both sides, to the letter.
-/
namespace Go.Proofs.YtihdablgnmkjnaaGreatDoor
open Go.RowKit

theorem markLockS_nil (k : Int) (w : World) : Calls Tryz.prog 82 #[.slice none 0 0, .int .i64 k] w fun e w' => e = .returned (.int .i64 k) ∧ w' = w := by
  go_enter Tryz.func82, Tryz.ntmps82
  go_wp2_with fail
  refine wp_loop_rounds 1 ?_
  rw [rounds_succ]
  go_wp2_with fail
  go_ret
  exact ⟨rfl, rfl⟩
theorem markChanS_nil (k : Int) (w : World) : Calls Tryz.prog 83 #[.slice none 0 0, .int .i64 k] w fun e w' => e = .returned (.int .i64 k) ∧ w' = w := by
  go_enter Tryz.func83, Tryz.ntmps83
  go_wp2_with fail
  refine wp_loop_rounds 1 ?_
  rw [rounds_succ]
  go_wp2_with fail
  go_ret
  exact ⟨rfl, rfl⟩
theorem markCountS_nil (k : Int) (w : World) : Calls Tryz.prog 84 #[.slice none 0 0, .int .i64 k] w fun e w' => e = .returned (.int .i64 k) ∧ w' = w := by
  go_enter Tryz.func84, Tryz.ntmps84
  go_wp2_with fail
  refine wp_loop_rounds 1 ?_
  rw [rounds_succ]
  go_wp2_with fail
  go_ret
  exact ⟨rfl, rfl⟩
theorem markInt64S_nil (k : Int) (w : World) : Calls Tryz.prog 85 #[.slice none 0 0, .int .i64 k] w fun e w' => e = .returned (.int .i64 k) ∧ w' = w := by
  go_enter Tryz.func85, Tryz.ntmps85
  go_wp2_with fail
  refine wp_loop_rounds 1 ?_
  rw [rounds_succ]
  go_wp2_with fail
  go_ret
  exact ⟨rfl, rfl⟩
theorem heldLockS_nil (k : Int) (w : World) : Calls Tryz.prog 86 #[.slice none 0 0, .int .i64 k] w fun e w' => e = .returned (.int .i64 k) ∧ w' = w := by
  go_enter Tryz.func86, Tryz.ntmps86
  go_wp2_with fail
  refine wp_loop_rounds 1 ?_
  rw [rounds_succ]
  go_wp2_with fail
  go_ret
  exact ⟨rfl, rfl⟩
theorem heldChanS_nil (k : Int) (w : World) : Calls Tryz.prog 87 #[.slice none 0 0, .int .i64 k] w fun e w' => e = .returned (.int .i64 k) ∧ w' = w := by
  go_enter Tryz.func87, Tryz.ntmps87
  go_wp2_with fail
  refine wp_loop_rounds 1 ?_
  rw [rounds_succ]
  go_wp2_with fail
  go_ret
  exact ⟨rfl, rfl⟩
theorem heldCountS_nil (k : Int) (w : World) : Calls Tryz.prog 88 #[.slice none 0 0, .int .i64 k] w fun e w' => e = .returned (.int .i64 k) ∧ w' = w := by
  go_enter Tryz.func88, Tryz.ntmps88
  go_wp2_with fail
  refine wp_loop_rounds 1 ?_
  rw [rounds_succ]
  go_wp2_with fail
  go_ret
  exact ⟨rfl, rfl⟩
theorem heldInt64S_nil (k : Int) (w : World) : Calls Tryz.prog 89 #[.slice none 0 0, .int .i64 k] w fun e w' => e = .returned (.int .i64 k) ∧ w' = w := by
  go_enter Tryz.func89, Tryz.ntmps89
  go_wp2_with fail
  refine wp_loop_rounds 1 ?_
  rw [rounds_succ]
  go_wp2_with fail
  go_ret
  exact ⟨rfl, rfl⟩

set_option maxHeartbeats 400000 in
theorem markScene_nil (w : World) : Calls Tryz.prog 29 #[.agg #[.int .i64 1, .slice none 0 0, .slice none 0 0, .slice none 0 0, .slice none 0 0], .int .i64 1] w fun e w' => e = .returned (.int .i64 1) ∧ Fr w w' := by
  go_enter Tryz.func29, Tryz.ntmps29
  go_wp2_with fail
  refine (markLockS_nil _ _).mono ?_
  rintro e u1 ⟨rfl, rfl⟩
  go_wp2_with fail
  refine (markChanS_nil _ _).mono ?_
  rintro e u1 ⟨rfl, rfl⟩
  go_wp2_with fail
  refine (markCountS_nil _ _).mono ?_
  rintro e u1 ⟨rfl, rfl⟩
  go_wp2_with fail
  refine (markInt64S_nil _ _).mono ?_
  rintro e u1 ⟨rfl, rfl⟩
  go_wp2_with fail
  go_ret
  exact ⟨rfl, Fr.alloc _ _⟩

set_option maxHeartbeats 400000 in
theorem heldScene_nil (w : World) : Calls Tryz.prog 30 #[.agg #[.int .i64 1, .slice none 0 0, .slice none 0 0, .slice none 0 0, .slice none 0 0], .int .i64 1] w fun e w' => e = .returned (.int .i64 1) ∧ Fr w w' := by
  go_enter Tryz.func30, Tryz.ntmps30
  go_wp2_with fail
  refine (heldLockS_nil _ _).mono ?_
  rintro e u1 ⟨rfl, rfl⟩
  go_wp2_with fail
  refine (heldChanS_nil _ _).mono ?_
  rintro e u1 ⟨rfl, rfl⟩
  go_wp2_with fail
  refine (heldCountS_nil _ _).mono ?_
  rintro e u1 ⟨rfl, rfl⟩
  go_wp2_with fail
  refine (heldInt64S_nil _ _).mono ?_
  rintro e u1 ⟨rfl, rfl⟩
  go_wp2_with fail
  go_ret
  exact ⟨rfl, Fr.alloc _ _⟩

theorem specNew_is (w : World) : Calls Tryz.prog 166 #[] w fun e w' => e = .returned (.agg #[.int .i64 1, .slice none 0 0, .slice none 0 0, .slice none 0 0, .slice none 0 0]) ∧ Fr w w' := by
  go_enter Tryz.func166, Tryz.ntmps166
  go_wp2
  refine bodyPost_ret (v := .agg #[.int .i64 1, .slice none 0 0, .slice none 0 0, .slice none 0 0, .slice none 0 0]) (by simp [results, Tryz.results166, go_sem]) rfl ⟨rfl, Fr.alloc _ _⟩

theorem implNew_is (w : World) : Calls Tryz.prog 129 #[] w fun e w' => e = .returned (.agg #[.int .i64 1, .slice none 0 0, .slice none 0 0, .slice none 0 0, .slice none 0 0]) ∧ Fr w w' := by
  go_enter Tryz.func129, Tryz.ntmps129
  go_wp2
  refine bodyPost_ret (v := .agg #[.int .i64 1, .slice none 0 0, .slice none 0 0, .slice none 0 0, .slice none 0 0]) (by simp [results, Tryz.results129, go_sem]) rfl ⟨rfl, Fr.alloc _ _⟩
end Go.Proofs.YtihdablgnmkjnaaGreatDoor
/-
  Marks in a scene.
-/
namespace Go.Proofs.YtihdablgnmkjnaaGreatDoor
open Go.RowKit

theorem ReadsG.keepS {α : Type} {L : Lay α} {S : Nat → Prop} {w w' : World} {ao : Option Addr} {xs : List α} (h : ReadsG L w ao xs) (k : FrS S w w') (hs : ∀ b, blk ao = some b → ¬ S b) : ReadsG L w' ao xs := by
  refine ⟨h.len, fun i hi => ?_⟩
  obtain ⟨b, off, e, hc⟩ := h.at_ i hi
  refine ⟨b, off, e, fun j hj q hq => ?_⟩
  have h0 := hc j hj q hq
  have hlt : q < (L.cs xs[j]).length := by rw [L.len]; exact hq
  rw [List.getElem?_eq_getElem hlt] at h0 ⊢
  exact k.cell h0 (hs b (by rw [e]; rfl))
theorem RowAt.keepS {S : Nat → Prop} {w w' : World} {g : Nat} {T : TypeId} (h : RowAt w g T) (k : FrS S w w') (hs : ¬ S g) : RowAt w' g T := by
  obtain ⟨cur, hc⟩ := h
  exact ⟨cur, (k.block g (Array.getElem?_eq_some_iff.1 hc).1 hs).trans hc⟩
theorem OwnI.keepS {S : Nat → Prop} {w w' : World} {base g n c : Nat} {xs : List Int} (h : OwnI w base (.slice (some ⟨g, 0, none⟩) n c) xs) (k : FrS S w w') (hs : ¬ S g) : OwnI w' base (.slice (some ⟨g, 0, none⟩) n c) xs := by
  obtain ⟨⟨h1, h2⟩, h3⟩ := h
  rcases h2 with ⟨e, _⟩ | ⟨g', cap', cur, e, a1, hc, a2⟩
  · cases e
  · cases e
    exact ⟨⟨h1, .inr ⟨g, c, cur, rfl, a1, (k.block g (Array.getElem?_eq_some_iff.1 hc).1 hs).trans hc, a2⟩⟩, h3⟩

/-- The scene's lists hold the marks from 1 on. -/
structure HL (w : World) (s : Sv) (lvs : List Lv) : Prop where
  ll : lvs.length = s.ll
  tl : totL lvs ≤ 1000
  l1 : s.ll ≤ 1048576
  l2 : s.cl ≤ 1048576
  l3 : s.nl ≤ 1048576
  rl : ReadsG layL w s.lo (mkLs 1 lvs)
  rr : ∀ j (hj : j < lvs.length), Reads w lvs[j].ro (ups (1 + (totL (lvs.take j) : Int) + 2) lvs[j].rn)
  rc : ReadsG layC w s.co (mkC (1 + (totL lvs : Int)) s.cl)
  rn : ReadsG layN w s.no (mkN (1 + (totL lvs : Int) + 5 * (s.cl : Int)) s.nl)
  ro : Reads w s.oo (ups (1 + (totL lvs : Int) + 5 * (s.cl : Int) + 2 * (s.nl : Int)) s.ol)
theorem HL.fr {w w' : World} {s : Sv} {lvs : List Lv} (h : HL w s lvs) (k : Fr w w') : HL w' s lvs :=
  { h with rl := h.rl.fr k, rr := fun j hj => (h.rr j hj).fr k, rc := h.rc.fr k, rn := h.rn.fr k, ro := h.ro.fr k }
/-- The number behind the last mark. -/
def endS (s : Sv) (lvs : List Lv) : Int := 1 + (totL lvs : Int) + 5 * (s.cl : Int) + 2 * (s.nl : Int) + (s.ol : Int)
theorem HL.zero (w : World) : HL w ⟨0, none, 0, 0, none, 0, 0, none, 0, 0, none, 0, 0⟩ [] :=
  ⟨rfl, by simp [totL], by simp, by simp, by simp, ReadsG.nil _ _ _, fun j hj => absurd hj (by simp), ReadsG.nil _ _ _, ReadsG.nil _ _ _, Reads.nil _ _⟩

set_option maxHeartbeats 1000000 in
theorem heldScene_any (s : Sv) (lvs : List Lv) (w : World) (h : HL w s lvs) :
    Calls Tryz.prog 30 #[.agg #[.int .i64 s.g, .slice s.lo s.ll s.lc, .slice s.co s.cl s.cc, .slice s.no s.nl s.nc, .slice s.oo s.ol s.oc], .int .i64 1] w fun e w' => e = .returned (.int .i64 (endS s lvs)) ∧ Fr w w' := by
  have hT := h.tl
  have hL2 := h.l2
  have hL3 := h.l3
  have cL := fun u (f : Fr w u) => heldL_any s.lo s.ll s.lc 1 lvs u h.ll h.l1 (by omega) (by omega) (by omega) (h.rl.fr f) (h.fr f).rr
  have cC := fun u (f : Fr w u) => heldC_any s.co s.cl s.cc (1 + (totL lvs : Int)) u h.l2 (by omega) (by omega) (h.rc.fr f)
  have cN := fun u (f : Fr w u) => heldN_any s.no s.nl s.nc (1 + (totL lvs : Int) + 5 * (s.cl : Int)) u h.l3 (by omega) (by omega) (h.rn.fr f)
  have cO := fun u (f : Fr w u) => held_any s.oo s.ol s.oc (1 + (totL lvs : Int) + 5 * (s.cl : Int) + 2 * (s.nl : Int)) u (by omega) (by omega) (h.ro.fr f)
  have fW := Fr.alloc w (.cells #[.int .i64 s.g, .slice s.lo s.ll s.lc, .slice s.co s.cl s.cc, .slice s.no s.nl s.nc, .slice s.oo s.ol s.oc] 29)
  have k1 := ScK.new w s
  have hol : (s.ol : Int) ≤ 4294967296 := by have := h.ro.len; rw [ups_length] at this; omega
  unfold endS
  clear h
  have b1 : ((1 + (totL lvs : Int)) < 0) = False := by simp; omega
  have b2 : ((1 + (totL lvs : Int) + 5 * (s.cl : Int)) < 0) = False := by simp; omega
  have b3 : ((1 + (totL lvs : Int) + 5 * (s.cl : Int) + 2 * (s.nl : Int)) < 0) = False := by simp; omega
  have b4 : ((1 + (totL lvs : Int) + 5 * (s.cl : Int) + 2 * (s.nl : Int) + (s.ol : Int)) < 0) = False := by simp; omega
  obtain ⟨q1, hq1⟩ : ∃ q, q = (1 + (totL lvs : Int)) := ⟨_, rfl⟩
  rw [← hq1] at b1 b2 b3 b4 ⊢
  simp only [← hq1] at cL cC cN cO
  obtain ⟨q2, hq2⟩ : ∃ q, q = (q1 + 5 * (s.cl : Int)) := ⟨_, rfl⟩
  rw [← hq2] at b2 b3 b4 ⊢
  simp only [← hq2] at cC cN cO
  obtain ⟨q3, hq3⟩ : ∃ q, q = (q2 + 2 * (s.nl : Int)) := ⟨_, rfl⟩
  rw [← hq3] at b3 b4 ⊢
  simp only [← hq3] at cN cO
  obtain ⟨q4, hq4⟩ : ∃ q, q = (q3 + (s.ol : Int)) := ⟨_, rfl⟩
  rw [← hq4] at b4 ⊢
  simp only [← hq4] at cO
  clear hq1 hq2 hq3 hq4 hT hL2 hL3 hol
  obtain ⟨sg, lo, ll, lc, co, cl, cc, no, nl, nc, oo, ol, oc⟩ := s
  simp only at k1 cL cC cN cO fW ⊢
  go_enter Tryz.func30, Tryz.ntmps30
  go_wp2_with fail
  refine (cL _ fW).mono ?_
  rintro e u1 ⟨rfl, rfl⟩
  go_wp2_with fail
  refine (cC _ fW).mono ?_
  rintro e u1 ⟨rfl, rfl⟩
  go_wp2_with fail
  refine (cN _ fW).mono ?_
  rintro e u1 ⟨rfl, rfl⟩
  go_wp2_with fail
  refine (cO _ fW).mono ?_
  rintro e u1 ⟨rfl, rfl⟩
  go_wp2_with fail
  go_ret
  exact ⟨rfl, fW⟩
theorem HL.made {w u1 u2 u3 u4 : World} {base gl gc gn go ll lc cl cc nl nc ol oc : Nat} {lvs : List Lv} (sgi : Int) (hll : ll = lvs.length) (ht : totL lvs ≤ 1000) (l1 : ll ≤ 1048576) (l2 : cl ≤ 1048576) (l3 : nl ≤ 1048576) (ne : gc ≠ gn ∧ gc ≠ go ∧ gn ≠ go) (ap : ∀ x, BlkL gl lvs x → x ≠ gc ∧ x ≠ gn ∧ x ≠ go)
    (M : MX w u1 gl base 1 lvs lvs.length) (C : ReadsG layC u2 (some ⟨gc, 0, none⟩) (mkC (1 + (totL lvs : Int)) cl)) (g2 : u1.grownBy u2 (some gc)) (N : ReadsG layN u3 (some ⟨gn, 0, none⟩) (mkN (1 + (totL lvs : Int) + 5 * (cl : Int)) nl)) (g3 : u2.grownBy u3 (some gn)) (O : OwnI u4 base (.slice (some ⟨go, 0, none⟩) ol oc) (ups (1 + (totL lvs : Int) + 5 * (cl : Int) + 2 * (nl : Int)) ol)) (g4 : u3.grownBy u4 (some go)) :
    HL u4 ⟨sgi, some ⟨gl, 0, none⟩, ll, lc, some ⟨gc, 0, none⟩, cl, cc, some ⟨gn, 0, none⟩, nl, nc, some ⟨go, 0, none⟩, ol, oc⟩ lvs := by
  have a0 := ap gl (.inl rfl)
  have rd : ReadsG layL u1 (some ⟨gl, 0, none⟩) (mkLs 1 lvs) := by simpa using M.rd
  have nb : ∀ {a b : Nat}, a ≠ b → (some b : Option Nat) = none ∨ blk (some ⟨a, 0, none⟩) ≠ some b := fun h => .inr (by simpa [blk] using h)
  refine ⟨hll.symm, ht, l1, l2, l3, ((rd.keep g2 (nb a0.1)).keep g3 (nb a0.2.1)).keep g4 (nb a0.2.2), fun j hj => ?_, (C.keep g3 (nb ne.1)).keep g4 (nb ne.2.1), N.keep g4 (nb ne.2.2), O.reads⟩
  obtain ⟨gj, e, -, o⟩ := M.new j hj hj
  have aj := ap gj (.inr ⟨j, hj, e⟩)
  rw [e]
  have o2 := own_other o g2 aj.1
  have o3 := own_other o2 g3 aj.2.1
  exact (own_other o3 g4 aj.2.2).reads

set_option maxHeartbeats 2000000 in
theorem markScene_any {B : Nat → Prop} {base gl gc gn go : Nat} {lvs : List Lv} (s : Sv) (m : Scn) (w : World) (hR : ScR B w s m) (hO : ScO base w s m gl gc gn go lvs) :
    Calls Tryz.prog 29 #[.agg #[.int .i64 s.g, .slice s.lo s.ll s.lc, .slice s.co s.cl s.cc, .slice s.no s.nl s.nc, .slice s.oo s.ol s.oc], .int .i64 1] w fun e w' => e = .returned (.int .i64 (endS s lvs)) ∧ HL w' s lvs ∧ FrS (fun x => BlkL gl lvs x ∨ x = gc ∨ x = gn ∨ x = go) w w' := by
  have fW := Fr.alloc w (.cells #[.int .i64 s.g, .slice s.lo s.ll s.lc, .slice s.co s.cl s.cc, .slice s.no s.nl s.nc, .slice s.oo s.ol s.oc] 29)
  have k1 := ScK.new w s
  have hl : lvs.length ≤ 1048576 := by
    obtain ⟨l2, -, e, L⟩ := hR.lks
    have := hR.sl
    have := L.len
    have := hO.ll
    omega
  have ht := hO.tl
  have hcl := hR.cl
  have hnl := hR.nl
  have hol := hR.ol
  have hsc := hR.sc
  have hsn := hR.sn
  have hO1 := hO.fr fW
  have hR1 := hR.fr fW
  have hlo := hO.lo
  have hap := hO.ap
  have hne := hO.ne
  have cL := markL_any gl s.ll s.lc base 1 lvs _ hO.ll.symm (by rw [hO.ll]; exact hl) (by omega) (by omega) (by omega) hO1.rl hO1.ol
  have cC := fun u h hr => markC_any gc s.cl s.cc (1 + (totL lvs : Int)) m.cs u hcl.symm (by omega) (by omega) (by omega) h hr
  have cN := fun u h hr => markN_any gn s.nl s.nc (1 + (totL lvs : Int) + 5 * (s.cl : Int)) m.gs u hnl.symm (by omega) (by omega) (by omega) h hr
  have cO := fun u h => mark_any go s.ol s.oc base (1 + (totL lvs : Int) + 5 * (s.cl : Int) + 2 * (s.nl : Int)) m.os u hol.symm (by omega) (by omega) h
  have hC := hR1.chs
  have hN := hR1.cts
  have hrc := hO1.rc
  have hrn := hO1.rn
  have hoo := hO1.oo
  have hll := hO.ll
  obtain ⟨e1, e2, e3, e4⟩ : _ ∧ _ ∧ _ ∧ _ := ⟨hO.e1, hO.e2, hO.e3, hO.e4⟩
  unfold endS
  clear hO hR hO1 hR1 hol
  obtain ⟨sg, lo, ll, lc, co, cl, cc, no, nl, nc, oo, ol, oc⟩ := s
  simp only at k1 cL cC cN cO fW hC hN hrc hrn hoo e1 e2 e3 e4 hcl hnl hll ⊢
  subst e1 e2 e3 e4
  have HM := fun u1 u2 u3 u4 M C g2 N g3 O g4 => HL.made (w := w.alloc (.cells #[.int .i64 sg, .slice (some ⟨gl, 0, none⟩) ll lc, .slice (some ⟨gc, 0, none⟩) cl cc, .slice (some ⟨gn, 0, none⟩) nl nc, .slice (some ⟨go, 0, none⟩) ol oc] 29)) (u1 := u1) (u2 := u2) (u3 := u3) (u4 := u4) (base := base) (lc := lc) (cl := cl) (cc := cc) (nl := nl) (nc := nc) (ol := ol) (oc := oc) sg hll ht (by omega) (by omega) (by omega) hne hap M C g2 N g3 O g4
  have HK : Hid (∀ x, BlkL gl lvs x ∨ x = gc ∨ x = gn ∨ x = go → base ≤ x ∧ x < w.heap.size) := hlo
  have HP : Hid (∀ x, BlkL gl lvs x → x ≠ gc ∧ x ≠ gn ∧ x ≠ go) := hap
  obtain ⟨q1, hq1⟩ : ∃ q, q = (1 + (totL lvs : Int)) := ⟨_, rfl⟩
  simp only [← hq1] at cL cC cN cO HM ⊢
  obtain ⟨q2, hq2⟩ : ∃ q, q = (q1 + 5 * (cl : Int)) := ⟨_, rfl⟩
  simp only [← hq2] at cC cN cO HM ⊢
  obtain ⟨q3, hq3⟩ : ∃ q, q = (q2 + 2 * (nl : Int)) := ⟨_, rfl⟩
  simp only [← hq3] at cN cO HM ⊢
  obtain ⟨q4, hq4⟩ : ∃ q, q = (q3 + (ol : Int)) := ⟨_, rfl⟩
  simp only [← hq4] at cO ⊢
  have HN : Hid (gc ≠ gn ∧ gc ≠ go ∧ gn ≠ go) := hne
  clear hq1 hq2 hq3 hq4 ht hsc hsn hl hcl hnl hll hlo hap hne
  have nb : ∀ {a b : Nat}, a ≠ b → (some b : Option Nat) = none ∨ blk (some ⟨a, 0, none⟩) ≠ some b := fun h => .inr (by simpa [blk] using h)
  go_enter Tryz.func29, Tryz.ntmps29
  go_wp2_with fail
  refine (cL).mono ?_
  rintro e u1 ⟨rfl, M1⟩
  have S1 := M1.fr
  have k1 : ScK u1 w.heap.size ⟨sg, some ⟨gl, 0, none⟩, ll, lc, some ⟨gc, 0, none⟩, cl, cc, some ⟨gn, 0, none⟩, nl, nc, some ⟨go, 0, none⟩, ol, oc⟩ := (S1.block w.heap.size k1.lt (fun q => by have := HK.out _ (.inl q); omega)).trans k1
  obtain ⟨a0, a1, a2, a3, a4⟩ := k1.at
  simp only at a0 a1 a2 a3 a4
  have hC := hC.keepS S1 (fun b e q => by cases e; exact (HP.out _ q).1 rfl)
  have hN := hN.keepS S1 (fun b e q => by cases e; exact (HP.out _ q).2.1 rfl)
  have hrc := hrc.keepS S1 (fun q => (HP.out _ q).1 rfl)
  have hrn := hrn.keepS S1 (fun q => (HP.out _ q).2.1 rfl)
  have hoo := hoo.keepS S1 (fun q => (HP.out _ q).2.2 rfl)
  go_wp2_with fail
  refine (cC _ hC hrc).mono ?_
  rintro e u2 ⟨rfl, C2, -, g2⟩
  clear a0 a1 a2 a3 a4
  have k1 := k1.keep g2 (fun e => by cases e; have := HK.out _ (.inr (.inl rfl)); omega)
  obtain ⟨a0, a1, a2, a3, a4⟩ := k1.at
  simp only at a0 a1 a2 a3 a4
  have hN := hN.keep g2 (nb (HN.out.1.symm))
  have hrn := hrn.keep g2 (fun e => by cases e; exact HN.out.1 rfl)
  have hoo := own_other hoo g2 HN.out.2.1.symm
  go_wp2_with fail
  refine (cN _ hN hrn).mono ?_
  rintro e u3 ⟨rfl, N3, -, g3⟩
  clear a0 a1 a2 a3 a4
  have k1 := k1.keep g3 (fun e => by cases e; have := HK.out _ (.inr (.inr (.inl rfl))); omega)
  obtain ⟨a0, a1, a2, a3, a4⟩ := k1.at
  simp only at a0 a1 a2 a3 a4
  have hoo := own_other hoo g3 HN.out.2.2.symm
  go_wp2_with fail
  refine (cO _ hoo).mono ?_
  rintro e u4 ⟨rfl, O4, g4⟩
  go_wp2_with fail
  go_ret
  have F1 : FrS (fun x => BlkL gl lvs x ∨ x = gc ∨ x = gn ∨ x = go) _ u1 := ⟨S1.os, S1.tape, S1.output, S1.size, fun k hk hs => S1.block k hk (fun q => hs (.inl q))⟩
  exact ⟨rfl, HM u1 u2 u3 u4 M1 C2 g2 N3 g3 O4 g4, fW.toS.trans (F1.trans ((grown_toS g2 (.inr (.inl rfl))).trans ((grown_toS g3 (.inr (.inr (.inl rfl)))).trans (grown_toS g4 (.inr (.inr (.inr rfl)))))))⟩

set_option maxHeartbeats 400000 in
theorem markScene_zero (w : World) : Calls Tryz.prog 29 #[.agg #[.int .i64 0, .slice none 0 0, .slice none 0 0, .slice none 0 0, .slice none 0 0], .int .i64 1] w fun e w' => e = .returned (.int .i64 1) ∧ Fr w w' := by
  go_enter Tryz.func29, Tryz.ntmps29
  go_wp2_with fail
  refine (markLockS_nil _ _).mono ?_
  rintro e u1 ⟨rfl, rfl⟩
  go_wp2_with fail
  refine (markChanS_nil _ _).mono ?_
  rintro e u1 ⟨rfl, rfl⟩
  go_wp2_with fail
  refine (markCountS_nil _ _).mono ?_
  rintro e u1 ⟨rfl, rfl⟩
  go_wp2_with fail
  refine (markInt64S_nil _ _).mono ?_
  rintro e u1 ⟨rfl, rfl⟩
  go_wp2_with fail
  go_ret
  exact ⟨rfl, Fr.alloc _ _⟩

/-- A scene that may be marked: its lists are rows of their own between base and top, or it is the zero scene. -/
def Mky (base top : Nat) (w : World) (s : Sv) (m : Scn) : Prop :=
  (∃ gl gc gn go ys, ScO base w s m gl gc gn go ys ∧ ∀ x, (BlkL gl ys x ∨ x = gc ∨ x = gn ∨ x = go) → x < top) ∨ s = ⟨0, none, 0, 0, none, 0, 0, none, 0, 0, none, 0, 0⟩
theorem Mky.fr {base top : Nat} {w w' : World} {s : Sv} {m : Scn} (h : Mky base top w s m) (k : Fr w w') : Mky base top w' s m := by
  rcases h with ⟨gl, gc, gn, go, ys, h, q⟩ | h
  · exact .inl ⟨gl, gc, gn, go, ys, h.fr k, q⟩
  · exact .inr h
theorem Mky.keep {base top : Nat} {w w' : World} {s : Sv} {m : Scn} {row : Nat} (h : Mky base top w s m) (k : w.grownBy w' (some row)) (hr : row < base) : Mky base top w' s m := by
  rcases h with ⟨gl, gc, gn, go, ys, h, q⟩ | h
  · exact .inl ⟨gl, gc, gn, go, ys, h.keep k (.inl hr), q⟩
  · exact .inr h
theorem markS_any {B : Nat → Prop} {base top : Nat} (s : Sv) (m : Scn) (w : World) (hR : ScR B w s m) (h : Mky base top w s m) :
    Calls Tryz.prog 29 #[.agg #[.int .i64 s.g, .slice s.lo s.ll s.lc, .slice s.co s.cl s.cc, .slice s.no s.nl s.nc, .slice s.oo s.ol s.oc], .int .i64 1] w fun e w' => ∃ lvs, e = .returned (.int .i64 (endS s lvs)) ∧ HL w' s lvs ∧ FrS (fun x => base ≤ x ∧ x < top) w w' := by
  rcases h with ⟨gl, gc, gn, go, ys, h, q⟩ | rfl
  · refine (markScene_any s m w hR h).mono ?_
    rintro e w' ⟨rfl, H, f⟩
    exact ⟨ys, rfl, H, ⟨f.os, f.tape, f.output, f.size, fun k hk hs => f.block k hk (fun x => hs ⟨(h.lo k x).1, q k x⟩)⟩⟩
  · refine (markScene_zero w).mono ?_
    rintro e w' ⟨rfl, f⟩
    exact ⟨[], rfl, HL.zero w', f.toS⟩
theorem endS_pos (s : Sv) (lvs : List Lv) : 0 ≤ endS s lvs := by
  unfold endS
  omega
end Go.Proofs.YtihdablgnmkjnaaGreatDoor
