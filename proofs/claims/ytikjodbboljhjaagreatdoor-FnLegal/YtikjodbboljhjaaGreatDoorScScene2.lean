/-
  The board's scene.
-/
import Derived.Test.YtikjodbboljhjaaGreatDoorScScene
import Derived.Test.YtikjodbboljhjaaGreatDoorScW3
import Derived.Deep.RegionHeld3
namespace Go.Proofs.YtikjodbboljhjaaGreatDoor
open Go.RowKit

set_option maxRecDepth 20000 in
set_option maxHeartbeats 4000000 in
theorem scene_any {lo : Nat × Nat} {b b1 b2 b3 b4 n : Nat} {m : Scn} (w : World) (h : BoardW lo w b b1 b2 b3 b4 n m) (hm : scB m = true) (hn : n ≤ 4000000) :
    Calls Tryz.prog 41 #[.pointer (some ⟨b, 0, none⟩)] w fun e w' => ∃ s : Sv, e = .returned (.agg #[.int .i64 s.g, .slice s.lo s.ll s.lc, .slice s.co s.cl s.cc, .slice s.no s.nl s.nc, .slice s.oo s.ol s.oc]) ∧ ScR (fun x => w.heap.size ≤ x ∧ x < w'.heap.size) w' s m ∧ Fr w w' := by
  obtain ⟨fl, lvs, M1, hLk, hv1, hk1⟩ := h.lks hm
  obtain ⟨r1, r2, r3, r4⟩ := sc_rise hm
  have HSC := (scB_iff m).1 hm
  have f0 := Fr.alloc w (.cells #[.int .i64 0, .slice none 0 0, .slice none 0 0, .slice none 0 0, .slice none 0 0] 29)
  have k0 := ScK.new w ⟨0, none, 0, 0, none, 0, 0, none, 0, 0, none, 0, 0⟩
  simp only at k0
  have hlen : ∀ (xs : List Int), xs.Pairwise (· < ·) → (∀ x ∈ xs, 0 ≤ x ∧ x ≤ 15) → xs.length ≤ 16 := fun xs q1 q2 => by
    have := rise_len xs 0 15 q1 q2 (by omega)
    omega
  have o1 : ∀ x ∈ m.ls.map Lk.o, 0 ≤ x ∧ x ≤ 15 := fun x hx => by
    obtain ⟨l, hl, rfl⟩ := List.mem_map.1 hx
    exact ((lkB_iff _ _).1 (HSC.2.1.1 l hl)).2.1
  have o2 : ∀ x ∈ m.cs.map Ch.o, 0 ≤ x ∧ x ≤ 15 := fun x hx => by
    obtain ⟨l, hl, rfl⟩ := List.mem_map.1 hx
    exact (chB_in (HSC.2.2.1.1 l hl)).1
  have o3 : ∀ x ∈ m.gs.map Ct.o, 0 ≤ x ∧ x ≤ 15 := fun x hx => by
    obtain ⟨l, hl, rfl⟩ := List.mem_map.1 hx
    exact (ctB_in (HSC.2.2.2.1.1 l hl)).1
  have o4 := HSC.2.2.2.2.1
  have n1 : lvs.length ≤ 16 := by have := hlen _ r1 o1; rw [hLk.len]; simpa using this
  have n2 : m.cs.length ≤ 16 := by simpa using hlen _ r2 o2
  have n3 : m.gs.length ≤ 16 := by simpa using hlen _ r3 o3
  have n4 : m.os.length ≤ 16 := hlen _ r4 o4
  have cL := fun u (f : Fr w u) => ordL_any b1 n fl lvs u (M1.fr f) (by rw [lk_os _ _ hLk]; exact r1) hk1 hv1 (fun o ho => by rw [lk_os _ _ hLk] at ho; exact i64_small (by have := o1 o ho; omega)) hn (by omega)
  have cC := fun u (f : Fr w u) => ordC_any b2 n _ m.cs u (h.m2.fr f) r2 (fun o => by rw [mem_find]; simp) (fun j hj => by rw [find_of_mem Ch.o m.cs r2 _ (List.getElem_mem hj)]; rfl) (fun o ho => i64_small (by have := o2 o ho; omega)) hn (by omega)
  have cN := fun u (f : Fr w u) => ordN_any b3 n _ m.gs u (h.m3.fr f) r3 (fun o => by rw [mem_find]; simp) (fun j hj => by rw [find_of_mem Ct.o m.gs r3 _ (List.getElem_mem hj)]; rfl) (fun o ho => i64_small (by have := o3 o ho; omega)) hn (by omega)
  have cI := fun u (f : Fr w u) => ordI_any b4 n _ m.os u (h.m4.fr f) r4 (fun o => by simp only [find_self]; by_cases q : o ∈ m.os <;> simp [q]) (fun j hj => by simp only [find_self]; rw [if_pos (List.getElem_mem hj)]; rfl) (fun o ho => i64_small (by have := o4 o ho; omega)) hn (by omega)
  have HC : Hid (∀ u, Fr w u → u.cell? ⟨b, 0, none⟩ = some (.int .i64 m.g) ∧ u.cell? ⟨b, 1, none⟩ = some (.map (some b1)) ∧ u.cell? ⟨b, 2, none⟩ = some (.map (some b2)) ∧ u.cell? ⟨b, 3, none⟩ = some (.map (some b3)) ∧ u.cell? ⟨b, 4, none⟩ = some (.map (some b4))) := fun u f => ⟨f.cell h.toM.c0, f.cell h.toM.c1, f.cell h.toM.c2, f.cell h.toM.c3, f.cell h.toM.c4⟩
  have HG : Hid (I64 m.g) := i64_small (by have := HSC.1; omega)
  have HIC : Hid (∀ c ∈ m.cs, I64 c.o ∧ I64 c.cap ∧ I64 c.sent ∧ I64 c.got) := fun c hc => by
    have := chB_in (HSC.2.2.1.1 c hc)
    exact ⟨i64_small (by omega), i64_small (by omega), i64_small (by omega), i64_small (by omega)⟩
  have HIN : Hid (∀ c ∈ m.gs, I64 c.o ∧ I64 c.n) := fun c hc => by
    have := ctB_in (HSC.2.2.2.1.1 c hc)
    exact ⟨i64_small (by omega), i64_small (by omega)⟩
  have hblt := h.blt
  clear h hm M1 hv1 hk1 HSC o1 o2 o3 o4 r1 r2 r3 r4 hlen
  obtain ⟨c0, c1, c2, c3, c4⟩ := HC.out _ f0
  go_enter Tryz.func41, Tryz.ntmps41
  go_wp2_with fail
  obtain ⟨W, hW⟩ : ∃ W, W = w.alloc (.cells #[.int .i64 0, .slice none 0 0, .slice none 0 0, .slice none 0 0, .slice none 0 0] 29) := ⟨_, rfl⟩
  rw [← hW] at f0 k0 c0 c1 c2 c3 c4 ⊢
  obtain ⟨rb, hrb⟩ : ∃ rb, rb = w.heap.size := ⟨_, rfl⟩
  rw [← hrb] at k0 ⊢
  have HRB : Hid (rb = w.heap.size) := hrb
  have hrbb : rb ≠ b := by omega
  clear hW hrb
  refine (cL W f0).mono ?_
  rintro x w1 ⟨v1, rfl, O1, f1⟩
  obtain ⟨g1, cap1, rfl, O1, hl1⟩ := O1
  clear c0 c1 c2 c3 c4 cL
  have F1 := f0.trans f1
  have k1 := k0.fr f1
  have hX : LX w w1 g1 0 lvs lvs m.ls := by
    have hb := O1.lt g1 rfl
    rcases O1.2 with ⟨e, _⟩ | ⟨g', cap', cur, e, -, hc, -⟩
    · cases e
    · cases e
      refine ⟨F1, by have := f0.size; omega, ⟨cur, hc⟩, own_readsG O1 (by omega), hLk.len, fun j _ _ q => by omega, fun j _ _ _ => rfl⟩
  have hgr : g1 ≠ rb := by
    have := O1.lt g1 rfl
    have := k0.lt
    omega
  clear f0 k0 f1 O1
  go_wp2_with fail
  go_loopw [13] (fun i wr => ∃ (k : Nat) (ys : List Lv), k ≤ lvs.length ∧ i = .int .i64 k ∧ LX w wr g1 k lvs ys m.ls ∧ ScK wr rb ⟨0, none, 0, 0, none, 0, 0, none, 0, 0, none, 0, 0⟩) (fun i _ => lvs.length - (intOf i).toNat)
  case atStart => exact ⟨0, lvs, Nat.zero_le _, rfl, hX, k1⟩
  case round =>
    clear hX k1
    obtain ⟨k, ys, hk, rfl, hX, k1⟩ := hrel
    by_cases hlt : k < lvs.length
    · have hy : k < ys.length := by rw [hX.len, ← hLk.len]; exact hlt
      have hls : k < m.ls.length := by rw [← hLk.len]; exact hlt
      have he := hX.old k hy hlt (Nat.le_refl _)
      obtain ⟨bq, off, e0, d0, d1, d2⟩ := lv_at hX.rd k hy
      simp only [Option.some.injEq, Addr.mk.injEq, and_true] at e0
      obtain ⟨rfl, rfl⟩ := e0
      rw [he] at d0 d1 d2
      simp only [Nat.zero_add] at d0 d1 d2
      have hLR := (hLk.at_ k hlt hls).fr hX.fr
      have HPUT : Hid (∀ u g2 c2, Fr wr u → Reads u (some ⟨g2, 0, none⟩) m.ls[k].rd → (wr.heap.size ≤ g2 ∧ g2 < u.heap.size) → LX w (u.setCell ⟨g1, k * 3 + 2, none⟩ (.slice (some ⟨g2, 0, none⟩) m.ls[k].rd.length c2)) g1 (k + 1) lvs (ys.set k { ys[k] with ro := some ⟨g2, 0, none⟩, rn := m.ls[k].rd.length, rc := c2 }) m.ls) := fun u g2 c2 fu R q => by
        have hg := hX.glt
        have hs := hX.ge
        exact (hX.grow fu).put hy hls hlt (((hLk.at_ k hlt hls).fr (hX.fr.trans fu)).mono (fun _ _ => trivial)) R ⟨by omega, by omega, by omega⟩
      have HFZ : Hid (∀ u, Fr wr u → u.frozen? ⟨g1, k * 3 + 2, none⟩ = false ∧ ∃ x, u.cell? ⟨g1, k * 3 + 2, none⟩ = some x) := fun u fu => by
        obtain ⟨cur, hc⟩ := (hX.grow fu).row
        exact ⟨frozen_of_row u g1 _ _ _ hc, _, fu.cell d2⟩
      have hrn := hLR.rn
      have hrd := hLR.rd
      have hrc := hLR.rc
      have hrs := hLR.sz
      obtain ⟨rd, hrdd⟩ : ∃ rd, rd = m.ls[k].rd := ⟨_, rfl⟩
      rw [← hrdd] at hrn hrd hrs HPUT
      clear hrdd hLR he
      obtain ⟨e, hee⟩ : ∃ e, e = lvs[k] := ⟨_, rfl⟩
      rw [← hee] at d0 d1 d2 hrn hrd hrc
      clear hee
      obtain ⟨zo, zw, zr, zn, zk⟩ := e
      simp only at d0 d1 d2 hrn hrd hrc
      subst hrn
      have fA := Fr.alloc wr (.cells #[.int .i64 zo, .int .i64 zw, .slice zr rd.length zk] 47)
      have fB := Fr.alloc (wr.alloc (.cells #[.int .i64 zo, .int .i64 zw, .slice zr rd.length zk] 47)) (.cells #[] 2)
      have hO := own_empty (wr.alloc (.cells #[.int .i64 zo, .int .i64 zw, .slice zr rd.length zk] 47)) wr.heap.size (by simp)
      have hR := hrd.fr (fA.trans fB)
      have fAB := fA.trans fB
      simp only [World.size_alloc] at hO
      clear fA fB hrd
      go_wp2_with (at_builtin; refine appI _ rfl _ _ rfl wr.heap.size _ _ rd rfl hO zr rd.length zk rfl rfl hrc hR (by simp; omega) (by simp; omega) ?_; intro v4 w4 hv4 hg4; have fu : Fr wr w4 := fAB.then hg4 hO.blk; have hb4 := hv4.blk; obtain ⟨g2, c2, rfl, ho4⟩ := hv4; have hb4 := hb4 g2 rfl; obtain ⟨z1, z2, z3⟩ := HFZ.out w4 fu)
      go_roundw
      case rel => exact ⟨k + 1, _, by omega, by go_num, HPUT.out w4 g2 c2 fu (by simpa using ho4.reads) ⟨hb4, (ho4.1.lt g2 rfl).2⟩, (k1.fr fu).keep (grown_set _ _ _ _) (by simpa using fun q => hgr q)⟩
      case measure => simp [intOf]; omega
    · have hke : k = lvs.length := by omega
      have HLK : Hid (LksR (fun x => w.heap.size < x ∧ x < wr.heap.size ∧ x ≠ g1) wr ys m.ls ∧ ReadsG layL wr (some ⟨g1, 0, none⟩) ys ∧ lvs.length = ys.length) := ⟨⟨hX.len, fun j h1 h2 => hX.new j h1 h2 (by rw [hke, hLk.len]; exact h2)⟩, hX.rd, by rw [hX.len, hLk.len]⟩
      have hgl := hX.glt
      have hge := hX.ge
      have FW := hX.fr
      clear hX hLk
      subst hke
      have HK : Hid (∀ u, Fr wr u → ScK u rb ⟨0, none, 0, 0, none, 0, 0, none, 0, 0, none, 0, 0⟩) := fun u f => k1.fr f
      have hrl := k1.lt
      obtain ⟨mg, hmg⟩ : ∃ g, g = m.g := ⟨_, rfl⟩
      rw [← hmg] at HC
      have HMG : Hid (mg = m.g) := hmg
      clear hmg k1
      obtain ⟨c0, c1, c2, c3, c4⟩ := HC.out wr FW
      have fD := FW.trans (Fr.drew wr)
      go_wp2_with fail
      go_region_held3 (fun u => u.cell? ⟨b, 0, none⟩ = some (.int .i64 mg) ∧ u.cell? ⟨b, 1, none⟩ = some (.map (some b1)) ∧ u.cell? ⟨b, 2, none⟩ = some (.map (some b2)) ∧ u.cell? ⟨b, 3, none⟩ = some (.map (some b3)) ∧ u.cell? ⟨b, 4, none⟩ = some (.map (some b4))) (go_keep)
        (first | (go_at_call 101; refine (cC _ fD).mono ?_; rintro x u1 ⟨v1, rfl, O1, f1⟩; have q1 := (Fr.drew wr).trans f1; obtain ⟨p0, p1, p2, p3, p4⟩ := HC.out _ (FW.trans q1); obtain ⟨ga, ca, rfl, O1, hla⟩ := O1) | (go_at_call 102; refine (cN _ (FW.trans q1)).mono ?_; rintro x u2 ⟨v2, rfl, O2, f2⟩; have q2 := q1.trans f2; obtain ⟨s0, s1, s2, s3, s4⟩ := HC.out _ (FW.trans q2); obtain ⟨gb, cb, rfl, O2, hlb⟩ := O2) | (go_at_call 103; refine (cI _ (FW.trans q2)).mono ?_; rintro x u3 ⟨v3, rfl, O3, f3⟩; have q3 := q2.trans f3; obtain ⟨t0, t1, t2, t3, t4⟩ := HC.out _ (FW.trans q3); obtain ⟨gc, cc, rfl, O3⟩ := O3; obtain ⟨j0, j1, j2, j3, j4⟩ := (HK.out u3 q3).at; simp only at j0 j1 j2 j3 j4; have jf := fun i => (HK.out u3 q3).free i))
      clear c0 c1 c2 c3 c4 p0 p1 p2 p3 p4 s0 s1 s2 s3 s4 t0 t1 t2 t3 t4
      go_wp2_with fail
      have ta := O1.lt ga rfl
      have tb := O2.lt gb rfl
      have tc := O3.1.lt gc rfl
      have k5 := put5 u3 rb (.int .i64 mg) (.slice (some ⟨g1, 0, none⟩) lvs.length cap1) (.slice (some ⟨ga, 0, none⟩) m.cs.length ca) (.slice (some ⟨gb, 0, none⟩) m.gs.length cb) (.slice (some ⟨gc, 0, none⟩) m.os.length cc)
      have z1 := f1.size
      have z2 := f2.size
      have z3 := f3.size
      have z5 := k5.size
      have z6 := FW.size
      have zd : wr.drew.heap.size = wr.heap.size := rfl
      have FK : Fr w u3 := FW.trans q3
      have HRB := HRB.out
      obtain ⟨l1, l2, l3⟩ := HLK.out
      have R1 := own_readsG O1 hla
      have R2 := own_readsG O2 hlb
      have R3 := O3.reads
      refine bodyPost_ret (v := .agg #[.int .i64 mg, .slice (some ⟨g1, 0, none⟩) lvs.length cap1, .slice (some ⟨ga, 0, none⟩) m.cs.length ca, .slice (some ⟨gb, 0, none⟩) m.gs.length cb, .slice (some ⟨gc, 0, none⟩) m.os.length cc]) (by simp [results, Tryz.results41, go_sem, j0, j1, j2, j3, j4]) rfl ⟨⟨mg, some ⟨g1, 0, none⟩, lvs.length, cap1, some ⟨ga, 0, none⟩, m.cs.length, ca, some ⟨gb, 0, none⟩, m.gs.length, cb, some ⟨gc, 0, none⟩, m.os.length, cc⟩, rfl, ?_, FK.then k5 (fun j hj => by simp only [Option.some.injEq] at hj; omega)⟩
      have ll := l1.len
      exact { g := HMG.out, ig := HG.out, lks := ⟨ys, (l2.fr q3).keep k5 (.inr (by simp [blk]; omega)), l3, ⟨ll, fun j h1 h2 => (((l1.at_ j h1 h2).fr q3).keep k5 (fun x hx => by cases hx; exact fun q => by omega)).mono (fun x q => ⟨by omega, by omega⟩)⟩⟩,
              chs := (R1.fr (f2.trans f3)).keep k5 (.inr (by simp [blk]; omega)), cl := rfl, cts := (R2.fr f3).keep k5 (.inr (by simp [blk]; omega)), nl := rfl, ons := R3.keep k5 (.inr (by simp [blk]; omega)), ol := rfl,
              bl := fun x hx => by simp only [blk, Option.map_some, Option.some.injEq] at hx; omega, bc := fun x hx => by simp only [blk, Option.map_some, Option.some.injEq] at hx; omega, bn := fun x hx => by simp only [blk, Option.map_some, Option.some.injEq] at hx; omega, bo := fun x hx => by simp only [blk, Option.map_some, Option.some.injEq] at hx; omega,
              zo := fun q => by simp at q, sl := by omega, sc := by omega, sn := by omega, so := by omega, ic := HIC.out, inn := HIN.out }
end Go.Proofs.YtikjodbboljhjaaGreatDoor
