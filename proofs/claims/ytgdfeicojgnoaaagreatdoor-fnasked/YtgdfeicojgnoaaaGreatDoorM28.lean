/- Contracts of the draws of keys. -/
import Derived.Test.YtgdfeicojgnoaaaGreatDoorM27
import Derived.Deep.RegionWith
namespace Go.Proofs.YtgdfeicojgnoaaaGreatDoor
open Go.RowKit
set_option linter.unusedVariables false
set_option linter.unusedSimpArgs false

theorem g_new {w w1 : World} {row : Option Nat} (h : w.grownBy w1 row) {p : Addr} (hp : w.heap.size ≤ p.block) (v : Value) : w.grownBy (w1.setCell p v) row :=
  ⟨h.os, h.tape, h.output, by simpa using h.size, fun k hk hr => (Below.heap_setCell w1 p v k (by omega)).trans (h.block k hk hr)⟩

theorem g_alloc {w w1 : World} {row : Option Nat} (h : w.grownBy w1 row) (o : Obj) : w.grownBy (w1.alloc o) row := gtrans h (World.grownBy_alloc w1 o row)

theorem g_below {w w1 w2 : World} {row : Option Nat} (h : w.grownBy w1 row) (k : Below w1.heap.size w1 w2) : w.grownBy w2 row :=
  ⟨k.os.trans h.os, k.tape.trans h.tape, k.output.trans h.output, Nat.le_trans h.size k.size, fun i hi hr => (k.block i (Nat.lt_of_lt_of_le hi h.size)).trans (h.block i hi hr)⟩

theorem Cur.setNew {w0 : World} {a : Option Addr} {len cap b : Nat} {w : World} (h : Cur w0 a len cap b w) {p : Addr} (hne : ¬ b = p.block) (hp : w0.heap.size ≤ p.block) (v : Value) : Cur w0 a len cap b (w.setCell p v) := by
  obtain ⟨hb, h2, i, x, h0, h1, hh⟩ := h
  exact ⟨hb, h2.setCell hp v, i, x, h0, h1, (Below.heap_setCell w p v b hne).trans hh⟩

theorem Cur.kbelow {w0 : World} {a : Option Addr} {len cap b : Nat} {w w1 : World} (h : Cur w0 a len cap b w) (k : Below w.heap.size w w1) : Cur w0 a len cap b w1 := by
  have hlt := h.lt
  obtain ⟨hb, h2, i, x, h0, h1, hh⟩ := h
  exact ⟨hb, h2.trans (k.mono h2.size), i, x, h0, h1, (k.block b hlt).trans hh⟩

theorem box3 {w : World} {g : Nat} {x y z : Value} {T : TypeId} (h : w.heap[g]? = some (.cells #[x, y, z] T (0, 0))) :
    (w.cell? ⟨g, 0, none⟩ = some x ∧ w.cell? ⟨g, 1, none⟩ = some y ∧ w.cell? ⟨g, 2, none⟩ = some z) ∧ (w.frozen? ⟨g, 0, none⟩ = false ∧ w.frozen? ⟨g, 1, none⟩ = false ∧ w.frozen? ⟨g, 2, none⟩ = false) :=
  ⟨⟨by rw [Lib.cell_of_heap h]; rfl, by rw [Lib.cell_of_heap h]; rfl, by rw [Lib.cell_of_heap h]; rfl⟩, Lib.frozen_of_heap h 0, Lib.frozen_of_heap h 1, Lib.frozen_of_heap h 2⟩

/-- What a drawn key is made of. -/
def kb (x : Int) : Prop := -1 ≤ x ∧ x ≤ 3000000001

theorem kf_kb (p q e : Int) : kb (kfN p q e) ∧ kb (kfE p q e) ∧ kb (kfD p q e) := by
  by_cases h : kfP p q e
  · obtain ⟨_, k2, k3, k4⟩ := kf_yes h
    rw [k2, k3, k4]
    obtain ⟨hu, he, hr, hd⟩ := h
    have h1 := hu.1.2.1
    have h2 := hu.2.1
    have := @invI_lt e ((p - 1) * (q - 1))
    have := phi_is p q
    unfold kb
    omega
  · obtain ⟨_, k2, k3, k4⟩ := kf_no h
    rw [k2, k3, k4]
    unfold kb
    omega

theorem cKeyOfK (p q e : Int) (w : World) :
    Calls Tryz.prog 127 #[.int .i64 p, .int .i64 q, .int .i64 e] w fun x w' => ∃ (n e' d : Int) (B : Bool), x = .returned (.tuple #[.agg #[.int .i64 n, .int .i64 e', .int .i64 d], .bool B]) ∧ (kb n ∧ kb e' ∧ kb d) ∧ Below w.heap.size w w' :=
  (cKeyOfS p q e w).mono fun _ _ ⟨h, hb⟩ => ⟨_, _, _, _, h, kf_kb p q e, hb⟩

set_option maxHeartbeats 2000000 in
theorem cL6Key (x : Nat) (hx : x < 4) (w : World) :
    Calls Tryz.prog 95 #[.int .i64 x] w fun r w' => ∃ n e d : Int, r = .returned (.agg #[.int .i64 n, .int .i64 e, .int .i64 d]) ∧ (kb n ∧ kb e ∧ kb d) ∧ Below w.heap.size w w' := by
  rcases (show x = 0 ∨ x = 1 ∨ x = 2 ∨ x = 3 by omega) with rfl | rfl | rfl | rfl
  all_goals
    go_enter Tryz.func95, Tryz.ntmps95
    go_wp2_with fail
    refine (cKeyOfK _ _ _ _).mono ?_
    rintro r w1 ⟨n, e, d, B, rfl, hk, hb⟩
    have HK := hide5 hk
    clear hk
    obtain ⟨hc, hf⟩ := k_bcell hb
    have H1 : Below (w.heap.size + 1) (w.alloc (.cells #[.int .i64 0, .int .i64 0, .int .i64 0] 70)) w1 := Below.trans ((((Below.refl _ _).alloc (by simp; try omega) _).alloc (by simp; try omega) _).alloc (by simp; try omega) _) (hb.mono (by simp; try omega))
    have HB : Hid (Below w.heap.size w w1) := ((Below.refl _ _).alloc (Nat.le_refl _) _).trans (H1.mono (by omega))
    have hz0 : w.heap.size < w1.heap.size := by have := H1.size; simp at this; omega
    obtain ⟨⟨r0, r1, r2⟩, fr0, fr1, fr2⟩ := box3 ((H1.block w.heap.size (by omega)).trans (heap_alloc_new w _))
    clear hc hf hb H1
    go_wp2_with fail
    refine bodyPost_ret (v := .agg #[.int .i64 n, .int .i64 e, .int .i64 d]) (by simp [results, Tryz.results95, go_sem, r0, r1, r2, hz0]) rfl ⟨n, e, d, rfl, HK.out, ?_⟩
    repeat first | exact HB.out | refine Below.setCell ?_ (by simp; try omega) _ | refine Below.alloc ?_ (by simp; try omega) _

abbrev ns3Obj : Obj := .cells #[.int .i64 2147483647, .int .i64 3000000001, .int .i64 3000000000] 2 (0, 0)

theorem ns3_at (w : World) (B x : Nat) (hx : x < 3) (h : w.heap[B]? = some ns3Obj) : ∃ y : Int, w.cell? ⟨B, x, none⟩ = some (.int .i64 y) ∧ kb y := by
  rw [Lib.cell_of_heap h]
  rcases (show x = 0 ∨ x = 1 ∨ x = 2 from by omega) with rfl | rfl | rfl
  · exact ⟨2147483647, rfl, by decide, by decide⟩
  · exact ⟨3000000001, rfl, by decide, by decide⟩
  · exact ⟨3000000000, rfl, by decide, by decide⟩

abbrev es3Obj (n : Int) : Obj := .cells #[.int .i64 2, .int .i64 3, .int .i64 n] 2 (0, 0)

theorem es3_at (n : Int) (hn : kb n) (w : World) (B x : Nat) (hx : x < 3) (h : w.heap[B]? = some (es3Obj n)) : ∃ y : Int, w.cell? ⟨B, x, none⟩ = some (.int .i64 y) ∧ kb y := by
  rw [Lib.cell_of_heap h]
  rcases (show x = 0 ∨ x = 1 ∨ x = 2 from by omega) with rfl | rfl | rfl
  · exact ⟨2, rfl, by decide, by decide⟩
  · exact ⟨3, rfl, by decide, by decide⟩
  · exact ⟨n, rfl, hn⟩

abbrev ds4Obj (n : Int) : Obj := .cells #[.int .i64 (-1), .int .i64 2, .int .i64 3, .int .i64 n] 2 (0, 0)

theorem ds4_at (n : Int) (hn : kb n) (w : World) (B x : Nat) (hx : x < 4) (h : w.heap[B]? = some (ds4Obj n)) : ∃ y : Int, w.cell? ⟨B, x, none⟩ = some (.int .i64 y) ∧ kb y := by
  rw [Lib.cell_of_heap h]
  rcases (show x = 0 ∨ x = 1 ∨ x = 2 ∨ x = 3 from by omega) with rfl | rfl | rfl | rfl
  · exact ⟨-1, rfl, by decide, by decide⟩
  · exact ⟨2, rfl, by decide, by decide⟩
  · exact ⟨3, rfl, by decide, by decide⟩
  · exact ⟨n, rfl, hn⟩

theorem blk_grown {w w1 : World} {b B : Nat} {o : Obj} (g : w.grownBy w1 (some b)) (hne : ¬ B = b) (h : w.heap[B]? = some o) : w1.heap[B]? = some o :=
  (g.block B (lt_of_heap h) (fun h => hne (Option.some.inj h))).trans h

set_option maxHeartbeats 4000000 in
theorem cL6Draw (w0 : World) (a : Option Addr) (len cap b : Nat) (w : World) (hlen : len ≤ 4096) (hcr : CodeRow w0 a len) (hC : Cur w0 a len cap b w) :
    Calls Tryz.prog 61 #[.pointer (some ⟨b, 0, none⟩)] w fun r w' => ∃ n e d : Int, r = .returned (.agg #[.int .i64 n, .int .i64 e, .int .i64 d]) ∧ (kb n ∧ kb e ∧ kb d) ∧ Cur w0 a len cap b w' ∧ w.grownBy w' (some b) := by
  have HR := hide5 hcr
  have HC := hide5 hC
  have hbl : b < w.heap.size := hC.lt
  have h00 : w0.heap.size ≤ w.heap.size := hC.size
  have hbr : ¬ w.heap.size = b := by omega
  clear hC hcr
  have HN := hide5 (heap_alloc_new w (.cells #[.int .i64 0, .int .i64 0, .int .i64 0] 70))
  go_enter Tryz.func61, Tryz.ntmps61
  go_wp2_with fail
  refine (cBelow 4 w0 a len cap _ _ hlen HR.out (HC.out.alloc _) (by decide) (by decide)).mono ?_
  rintro r w1 ⟨x, rfl, hx, hC1, hG1⟩
  have HN1 := hide5 (blk_grown hG1 hbr HN.out)
  have HC1 := hide5 hC1
  have HG1 := hide5 (gtrans (g_alloc (World.grownBy.refl w (some b)) _) hG1)
  clear hC1 hG1 HN HC
  go_wp2_with fail
  refine (cL6Key x hx _).mono ?_
  rintro r w2 ⟨n, e, d, rfl, hk, hb2⟩
  have HK := hide5 hk
  have HC2 := hide5 (HC1.out.kbelow hb2)
  have HG2 := hide5 (g_below HG1.out hb2)
  have HN2 := hide5 ((hb2.block _ (lt_of_heap HN1.out)).trans HN1.out)
  have hg1 : w.heap.size < w2.heap.size := lt_of_heap HN2.out
  have HM2 := hide5 (heap_alloc_new w2 (.cells #[.int .i64 n, .int .i64 e, .int .i64 d] 70))
  have HN2' := hide5 ((Below.heap_alloc w2 (.cells #[.int .i64 n, .int .i64 e, .int .i64 d] 70) w.heap.size hg1).trans HN2.out)
  have hgb : ¬ w2.heap.size = b := by omega
  clear hk HC1 HG1 hb2 HN1 hx
  go_wp2_with fail
  refine (cOnce 8 w0 a len cap _ _ hlen HR.out (HC2.out.alloc _) (by decide) (by decide)).mono ?_
  rintro r w3 ⟨q, rfl, hC3, hG3⟩
  have HN3 := hide5 (blk_grown hG3 hbr HN2'.out)
  have HM3 := hide5 (blk_grown hG3 hgb HM2.out)
  have HC3 := hide5 hC3
  have HG3 := hide5 (gtrans (g_alloc HG2.out _) hG3)
  clear hC3 hG3 HC2 HG2 HN2 HN2' HM2
  obtain ⟨⟨r0, r1, r2⟩, fr0, fr1, fr2⟩ := box3 HN3.out
  obtain ⟨⟨k0, k1, k2⟩, fk0, fk1, fk2⟩ := box3 HM3.out
  have hrg : ¬ w.heap.size = w2.heap.size := by omega
  have hgr : ¬ w2.heap.size = w.heap.size := by omega
  cases q
  · go_wp2_with fail
    refine bodyPost_ret (v := .agg #[.int .i64 n, .int .i64 e, .int .i64 d]) (by simp [results, Tryz.results61, go_sem, r0, r1, r2]) rfl ⟨n, e, d, rfl, HK.out, ?_, ?_⟩
    · repeat first | exact HC3.out | refine Cur.setNew ?_ (by simp; omega) (by simp; omega) _
    · repeat first | exact HG3.out | refine g_new ?_ (by simp) _
  · go_wp2_with fail
    refine (cBelow 4 w0 a len cap _ _ hlen HR.out HC3.out (by decide) (by decide)).mono ?_
    rintro r w4 ⟨y, rfl, hy, hC4, hG4⟩
    have HN4 := hide5 (blk_grown hG4 hbr HN3.out)
    have HM4 := hide5 (blk_grown hG4 hgb HM3.out)
    have HC4 := hide5 hC4
    have HG4 := hide5 (gtrans HG3.out hG4)
    have hg4 : w2.heap.size < w4.heap.size := lt_of_heap HM4.out
    clear hC4 hG4 HC3 HG3 HN3 HM3 r0 r1 r2 fr0 fr1 fr2 k0 k1 k2 fk0 fk1 fk2
    obtain ⟨⟨r0, r1, r2⟩, fr0, fr1, fr2⟩ := box3 HN4.out
    obtain ⟨⟨k0, k1, k2⟩, fk0, fk1, fk2⟩ := box3 HM4.out
    have h4b : ¬ w4.heap.size = b := by omega
    rcases (show y = 0 ∨ y = 1 ∨ y = 2 ∨ y = 3 from by omega) with rfl | rfl | rfl | rfl
    · have HA := hide5 (heap_alloc_new w4 ns3Obj)
      go_wp2_with fail
      refine (cBelow 3 w0 a len cap _ _ hlen HR.out (HC4.out.alloc _) (by decide) (by decide)).mono ?_
      rintro r w5 ⟨z, rfl, hz, hC5, hG5⟩
      obtain ⟨v, hv, hvb⟩ := ns3_at w5 w4.heap.size z hz (blk_grown hG5 h4b HA.out)
      have HN5 := hide5 (blk_grown hG5 hbr ((Below.heap_alloc w4 _ w.heap.size (by omega)).trans HN4.out))
      have HM5 := hide5 (blk_grown hG5 hgb ((Below.heap_alloc w4 _ w2.heap.size (by omega)).trans HM4.out))
      have HC5 := hide5 hC5
      have HG5 := hide5 (gtrans (g_alloc HG4.out _) hG5)
      have HV := hide5 hvb
      have hzi : (z : Int) < 3 := by omega
      clear hC5 hG5 HC4 HG4 HN4 HM4 r0 r1 r2 fr0 fr1 fr2 k0 k1 k2 fk0 fk1 fk2 HA hvb
      obtain ⟨⟨r0, r1, r2⟩, fr0, fr1, fr2⟩ := box3 HN5.out
      obtain ⟨⟨k0, k1, k2⟩, fk0, fk1, fk2⟩ := box3 HM5.out
      go_wp2_with fail
      refine bodyPost_ret (v := .agg #[.int .i64 v, .int .i64 e, .int .i64 d]) (by simp [results, Tryz.results61, go_sem, r0, r1, r2, k0, k1, k2, hrg, hgr]) rfl ⟨v, e, d, rfl, ⟨HV.out, HK.out.2⟩, ?_, ?_⟩
      · repeat first | exact HC5.out | refine Cur.setNew ?_ (by simp; omega) (by simp; omega) _
      · repeat first | exact HG5.out | refine g_new ?_ (by simp; try omega) _
    · go_wp2_with fail
      go_region_with (go_at_call 25; first
        | (refine (cBelow 3 w0 a len cap _ _ hlen HR.out ((HC4.out.alloc (es3Obj n)).drewN 1) (by decide) (by decide)).mono ?_; rintro r w5 ⟨z, rfl, hz, hC5, hG5⟩; obtain ⟨v, hv, hvb⟩ := es3_at n HK.out.1 w5 w4.heap.size z hz (blk_grown hG5 h4b (heap_alloc_new w4 (es3Obj n))); have HN5 := hide5 (blk_grown hG5 hbr ((Below.heap_alloc w4 _ w.heap.size (by omega)).trans HN4.out)); have HM5 := hide5 (blk_grown hG5 hgb ((Below.heap_alloc w4 _ w2.heap.size (by omega)).trans HM4.out)); have HC5 := hide5 hC5; have HG5 := hide5 (gtrans (g_drewN (g_alloc HG4.out _) 1) hG5); have HV := hide5 hvb; have hzi : (z : Int) < 3 := (by omega); have hg5 : w2.heap.size < w5.heap.size := lt_of_heap HM5.out; have hr5 : w.heap.size < w5.heap.size := (by omega); obtain ⟨⟨s0, s1, s2⟩, fs0, fs1, fs2⟩ := box3 HN5.out; obtain ⟨⟨j0, j1, j2⟩, fj0, fj1, fj2⟩ := box3 HM5.out; clear hC5 hG5 hvb)
        | (refine (cBelow 3 w0 a len cap _ _ hlen HR.out (HC4.out.drewN 1) (by decide) (by decide)).mono ?_; rintro r w5 ⟨z, rfl, hz, hC5, hG5⟩; obtain ⟨v, hv, hvb⟩ := es3_at n HK.out.1 (w5.alloc (es3Obj n)) w5.heap.size z hz (heap_alloc_new w5 (es3Obj n)); have HN5 := hide5 (blk_grown hG5 hbr (HN4.out)); have HM5 := hide5 (blk_grown hG5 hgb (HM4.out)); have HC5 := hide5 hC5; have HG5 := hide5 (gtrans (g_drewN HG4.out 1) hG5); have HV := hide5 hvb; have hzi : (z : Int) < 3 := (by omega); have hg5 : w2.heap.size < w5.heap.size := lt_of_heap HM5.out; have hr5 : w.heap.size < w5.heap.size := (by omega); obtain ⟨⟨s0, s1, s2⟩, fs0, fs1, fs2⟩ := box3 HN5.out; obtain ⟨⟨j0, j1, j2⟩, fj0, fj1, fj2⟩ := box3 HM5.out; clear hC5 hG5 hvb))
      all_goals
        go_wp2_with fail
        refine bodyPost_ret (v := .agg #[.int .i64 n, .int .i64 v, .int .i64 d]) (by simp [results, Tryz.results61, go_sem, s0, s1, s2, j0, j1, j2, hrg, hgr, hg5, hr5]) rfl ⟨n, v, d, rfl, ⟨HK.out.1, HV.out, HK.out.2.2⟩, ?_, ?_⟩
        · repeat first | exact HC5.out | refine Cur.setNew ?_ (by simp; omega) (by simp; omega) _ | refine Cur.alloc ?_ _
        · repeat first | exact HG5.out | refine g_new ?_ (by simp; try omega) _ | refine g_alloc ?_ _
    · go_wp2_with fail
      go_region_with (go_at_call 25; first
        | (refine (cBelow 4 w0 a len cap _ _ hlen HR.out ((HC4.out.alloc (ds4Obj n)).drewN 1) (by decide) (by decide)).mono ?_; rintro r w5 ⟨z, rfl, hz, hC5, hG5⟩; obtain ⟨v, hv, hvb⟩ := ds4_at n HK.out.1 w5 w4.heap.size z hz (blk_grown hG5 h4b (heap_alloc_new w4 (ds4Obj n))); have HN5 := hide5 (blk_grown hG5 hbr ((Below.heap_alloc w4 _ w.heap.size (by omega)).trans HN4.out)); have HM5 := hide5 (blk_grown hG5 hgb ((Below.heap_alloc w4 _ w2.heap.size (by omega)).trans HM4.out)); have HC5 := hide5 hC5; have HG5 := hide5 (gtrans (g_drewN (g_alloc HG4.out _) 1) hG5); have HV := hide5 hvb; have hzi : (z : Int) < 4 := (by omega); have hg5 : w2.heap.size < w5.heap.size := lt_of_heap HM5.out; have hr5 : w.heap.size < w5.heap.size := (by omega); obtain ⟨⟨s0, s1, s2⟩, fs0, fs1, fs2⟩ := box3 HN5.out; obtain ⟨⟨j0, j1, j2⟩, fj0, fj1, fj2⟩ := box3 HM5.out; clear hC5 hG5 hvb)
        | (refine (cBelow 4 w0 a len cap _ _ hlen HR.out (HC4.out.drewN 1) (by decide) (by decide)).mono ?_; rintro r w5 ⟨z, rfl, hz, hC5, hG5⟩; obtain ⟨v, hv, hvb⟩ := ds4_at n HK.out.1 (w5.alloc (ds4Obj n)) w5.heap.size z hz (heap_alloc_new w5 (ds4Obj n)); have HN5 := hide5 (blk_grown hG5 hbr (HN4.out)); have HM5 := hide5 (blk_grown hG5 hgb (HM4.out)); have HC5 := hide5 hC5; have HG5 := hide5 (gtrans (g_drewN HG4.out 1) hG5); have HV := hide5 hvb; have hzi : (z : Int) < 4 := (by omega); have hg5 : w2.heap.size < w5.heap.size := lt_of_heap HM5.out; have hr5 : w.heap.size < w5.heap.size := (by omega); obtain ⟨⟨s0, s1, s2⟩, fs0, fs1, fs2⟩ := box3 HN5.out; obtain ⟨⟨j0, j1, j2⟩, fj0, fj1, fj2⟩ := box3 HM5.out; clear hC5 hG5 hvb))
      all_goals
        go_wp2_with fail
        refine bodyPost_ret (v := .agg #[.int .i64 n, .int .i64 e, .int .i64 v]) (by simp [results, Tryz.results61, go_sem, s0, s1, s2, j0, j1, j2, hrg, hgr, hg5, hr5]) rfl ⟨n, e, v, rfl, ⟨HK.out.1, HK.out.2.1, HV.out⟩, ?_, ?_⟩
        · repeat first | exact HC5.out | refine Cur.setNew ?_ (by simp; omega) (by simp; omega) _ | refine Cur.alloc ?_ _
        · repeat first | exact HG5.out | refine g_new ?_ (by simp; try omega) _ | refine g_alloc ?_ _
    · go_wp2_with fail
      refine bodyPost_ret (v := .agg #[.int .i64 n, .int .i64 e, .int .i64 0]) (by simp [results, Tryz.results61, go_sem, r0, r1, r2, k0, k1, k2, hrg, hgr]) rfl ⟨n, e, 0, rfl, ⟨HK.out.1, HK.out.2.1, by decide, by decide⟩, ?_, ?_⟩
      · repeat first | exact HC4.out | refine Cur.setNew ?_ (by simp; omega) (by simp; omega) _
      · repeat first | exact HG4.out | refine g_new ?_ (by simp; try omega) _

end Go.Proofs.YtgdfeicojgnoaaaGreatDoor
