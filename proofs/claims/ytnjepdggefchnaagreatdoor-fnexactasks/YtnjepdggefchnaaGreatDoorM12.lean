/- Contracts of the specification's l16Copy, l16Enter, Entered, l16Remove, Removed. Contracts of what the exact laws call on gates: sized, copied, compared. -/
import Derived.Test.YtnjepdggefchnaaGreatDoorM11
import Derived.Test.YtnjepdggefchnaaGreatDoorM9
import Derived.Test.YtnjepdggefchnaaGreatDoorM4
import Derived.Deep.RegionHeld3
namespace Go.Proofs.YtnjepdggefchnaaGreatDoor
open Go.RowKit
set_option linter.unusedVariables false
set_option linter.unusedSimpArgs false

/-- Two boxes behind w. -/
theorem u_heap2 (w : World) (o1 o2 : Obj) : ((w.alloc o1).alloc o2).heap[w.heap.size]? = some o1 ∧ ((w.alloc o1).alloc o2).heap[w.heap.size + 1]? = some o2 := by
  have h1 := heap_alloc_new w o1
  have h2 := heap_alloc_new (w.alloc o1) o2
  rw [World.size_alloc] at h2
  exact ⟨(Below.heap_alloc _ _ _ (by simp)).trans h1, h2⟩

set_option maxRecDepth 8000 in
set_option maxHeartbeats 4000000 in
theorem cCopyS (t : Tb) (a : Option Addr) (cap : Nat) (w : World) (hR : RoRow w a t.rows) (hn : t.rows.length ≤ 100000) :
    Calls Tryz.prog 37 #[tbV t a cap] w fun e w' => ∃ g c, e = .returned (tbV t (some ⟨g, 0, none⟩) c) ∧ RoOwn w' w.heap.size g c t.rows ∧ Below w.heap.size w w' := by
  obtain ⟨m, l⟩ := t
  unfold RoOwn
  simp only at hR hn
  simp only [tbV]
  obtain ⟨i0, hi, hz0, hz1, hz2⟩ := info_parts infoRoW
  have HI := hid (And.intro hi (And.intro hz0 (And.intro hz1 hz2)))
  obtain ⟨n, hnn⟩ : ∃ n, l.length = n := ⟨_, rfl⟩
  have HS0 := hid (hR.sr (n := n) (c := cap) hnn)
  rw [hnn] at hn ⊢
  obtain ⟨b1, b2⟩ := u_heap2 w (.cells #[.int .i64 m, .slice a n cap] 32) (.cells #[.int .i64 0, .slice none 0 0] 32)
  have HB0 := hid (((Below.refl w.heap.size w).alloc (Nat.le_refl _) (.cells #[.int .i64 m, .slice a n cap] 32)).alloc (by simp) (.cells #[.int .i64 0, .slice none 0 0] 32))
  obtain ⟨W0, hW0⟩ : ∃ W0, ((w.alloc (.cells #[.int .i64 m, .slice a n cap] 32)).alloc (.cells #[.int .i64 0, .slice none 0 0] 32)) = W0 := ⟨_, rfl⟩
  rw [hW0] at b1 b2 HB0
  obtain ⟨B, hB⟩ : ∃ B, w.heap.size = B := ⟨_, rfl⟩
  rw [hB] at b1 b2
  have HM1 := hid b1
  have HM2 := hid b2
  have HSr := hid (HS0.out.below HB0.out)
  clear hi hz0 hz1 hz2 hR hnn b1 b2 HS0
  go_enter Tryz.func37, Tryz.ntmps37
  go_wp2_with fail
  obtain ⟨⟨f0, f1⟩, f2, f3⟩ := u_box2f HM1.out
  obtain ⟨⟨k0, k1⟩, k2, k3⟩ := u_box2f HM2.out
  have HBx := hid ((Below.refl W0.heap.size W0).alloc (Nat.le_refl _) (.cells #[] 78))
  obtain ⟨⟨p0, p1⟩, p2, p3⟩ := u_box2f (u_blk_below HM1.out HBx.out)
  obtain ⟨⟨q0, q1⟩, q2, q3⟩ := u_box2f (u_blk_below HM2.out HBx.out)
  have HBc := hid ((Below.refl W0.heap.size W0).drew)
  go_region_law (first
      | (refine u_step_src rfl (.tmp 5) (.tmp 7) _ rfl 78 i0 _ 2 24 Tryz.underlying30 HI.out.1 HI.out.2.1 HI.out.2.2.1 HI.out.2.2.2 rfl (by decide) W0.heap.size W0.heap.size 0 0 n [] (roC l) (.slice a n cap) (by simp [Act.eval, Act.put]) (by simp [Act.eval, Act.put]) (u_own_new W0.drew _ _) (HSr.out.below (HBc.out.alloc HBc.out.size _)) (roC_one l) (by omega) (by omega) (HBc.out.alloc HBc.out.size _).size n (by omega) (roC l) rfl ?_; intro g6 c6 w6 ho6 hb6 hg6; have HO6 := hid ho6; have HB6 := hid ((HBc.out.alloc HBc.out.size (.cells #[] 78)).trans hb6); obtain ⟨⟨r0, r1⟩, r2, r3⟩ := u_box2f (u_blk_below HM1.out HB6.out); obtain ⟨⟨s0, s1⟩, s2, s3⟩ := u_box2f (u_blk_below HM2.out HB6.out); clear ho6 hb6 hg6))
  all_goals
    have HD := hid ((show B + 1 < W0.heap.size from lt_of_heap HM2.out))
    have HW := hid ((HB0.out.trans (HB6.out.mono HB0.out.size)))
    have HO7 := hid (u_own_base HO6.out (show B ≤ W0.heap.size by have := HD.out; omega))
    go_wp2_with fail
    refine bodyPost_ret (v := .agg #[.int .i64 m, .slice (some ⟨g6, 0, none⟩) n c6]) (by simp [results, Tryz.results37, go_sem, r0, r1, s0, s1]) rfl ⟨g6, c6, rfl, ?_, ?_⟩
    · have hg6 : (Value.slice (some ⟨g6, 0, none⟩) n c6).ownBlock ≠ some (B + 1) := fun e => by
        have h1 := (HO6.out.lt _ e).1
        have h2 := HD.out
        omega
      rw [hB]
      exact u_own_set (u_own_set HO7.out hg6 _ _) hg6 _ _
    · iterate 2 refine Below.setCell ?_ (show w.heap.size ≤ B + 1 by omega) _
      exact HW.out

theorem enterT_there {t : Tb} {id : ByteArray} {til : Int} (h : isR t.rows id = true) : enterT t id til = (t, 1) := if_pos h
theorem enterT_full {t : Tb} {id : ByteArray} {til : Int} (h : isR t.rows id = false) (h2 : (t.rows.length : Int) = t.most) : enterT t id til = (t, 2) := by
  unfold enterT
  rw [if_neg (by rw [h]; exact Bool.false_ne_true), if_pos h2]
theorem enterT_in {t : Tb} {id : ByteArray} {til : Int} (h : isR t.rows id = false) (h2 : ¬ (t.rows.length : Int) = t.most) : enterT t id til = (⟨t.most, insR t.rows (findR t.rows id) ⟨id, til⟩⟩, 0) := by
  unfold enterT
  rw [if_neg (by rw [h]; exact Bool.false_ne_true), if_neg h2]

/-- What l16Enter leaves. -/
def EnterPost (P B : Nat) (T : Tb × Int) (w : World) (e : Ending) (w' : World) : Prop :=
  ∃ g' c', e = .returned (.int .i64 T.2) ∧ w'.heap[P]? = some (.cells #[.int .i64 T.1.most, .slice (some ⟨g', 0, none⟩) T.1.rows.length c'] 32 (0, 0)) ∧ RoOwn w' B g' c' T.1.rows ∧ u_KeepB (fun b => b = P) w w'

set_option maxRecDepth 8000 in
set_option maxHeartbeats 8000000 in
theorem cEnterS (P B g c : Nat) (m : Int) (l : List Ro) (id : ByteArray) (til : Int) (w : World) (hP : w.heap[P]? = some (.cells #[.int .i64 m, .slice (some ⟨g, 0, none⟩) l.length c] 32 (0, 0)))
    (hO : RoOwn w B g c l) (hn : l.length ≤ 100000) (hz : RoSz 1048576 l) (hi : id.size ≤ 1048576) (hB : B ≤ w.heap.size) :
    Calls Tryz.prog 17 #[.pointer (some ⟨P, 0, none⟩), .string id, .int .i64 til] w (EnterPost P B (enterT ⟨m, l⟩ id til) w) := by
  have CF := hid (cFindS ⟨m, l⟩ (some ⟨g, 0, none⟩) c id w hO.row hz (Nat.le_trans hn (by decide)) hi)
  unfold tbV at CF
  simp only at CF
  have HK := hid (findR_le l id)
  obtain ⟨k, hk⟩ : ∃ k, findR l id = k := ⟨_, rfl⟩
  have HP := hid hP
  have HO := hid hO
  have HKE := hid hk
  have HBB := hid hB
  rw [hk] at CF HK
  have HL : Hid (∀ n, l.length = n → ((isR l id = true → enterT ⟨m, l⟩ id til = (⟨m, l⟩, 1)) ∧ (isR l id = false → (n : Int) = m → enterT ⟨m, l⟩ id til = (⟨m, l⟩, 2)) ∧ (isR l id = false → ¬ (n : Int) = m → enterT ⟨m, l⟩ id til = (⟨m, insR l k ⟨id, til⟩⟩, 0)))) := fun n hn => by
    refine ⟨fun h => enterT_there (t := ⟨m, l⟩) h, fun h h2 => enterT_full (t := ⟨m, l⟩) h (by rw [hn]; exact h2), fun h h2 => ?_⟩
    rw [enterT_in (t := ⟨m, l⟩) h (by rw [hn]; exact h2)]
    simp only [hk]
  obtain ⟨T, hT⟩ : ∃ T, enterT ⟨m, l⟩ id til = T := ⟨_, rfl⟩
  rw [hT]
  simp only [hT] at HL
  obtain ⟨n, hnn⟩ : ∃ n, l.length = n := ⟨_, rfl⟩
  have HN := hid hnn
  have HLn := hid (HL.out n hnn)
  have HRd := hid hO.rd
  rw [hnn] at CF HK HP hn HRd
  have HC := hid (show n ≤ c by obtain ⟨b, o, c', e, _, h3, _⟩ := HRd.out.at_; cases e; exact h3)
  have hkn : k ≤ n := HK.out
  have hnc : n ≤ c := HC.out
  obtain ⟨⟨x0, x1⟩, x2, x3⟩ := u_box2f HP.out
  clear hP hO hz hk hT hnn HL hB
  cases hI : isR l id with
  | true =>
    have HE := hid (HLn.out.1 hI)
    rw [hI] at CF
    clear hI
    go_enter Tryz.func17, Tryz.ntmps17
    go_wp2_with fail
    refine CF.out.mono ?_
    rintro e w1 ⟨rfl, hb1⟩
    have HB1 := hid hb1
    clear hb1 CF
    go_wp2_with fail
    go_ret
    refine ⟨g, c, by rw [HE.out]; rfl, ?_, ?_, u_KeepB.of_below _ HB1.out⟩
    · rw [HE.out]
      simp only [HN.out]
      exact u_blk_below HP.out HB1.out
    · rw [HE.out]
      exact HO.out.below HB1.out
  | false =>
    have HEs := hid (And.intro (HLn.out.2.1 hI) (HLn.out.2.2 hI))
    rw [hI] at CF
    clear hI HLn
    go_enter Tryz.func17, Tryz.ntmps17
    go_wp2_with fail
    refine CF.out.mono ?_
    rintro e w1 ⟨rfl, hb1⟩
    have HB1 := hid hb1
    have HP1 := hid (u_blk_below HP.out hb1)
    clear hb1 CF x0 x1 x2 x3
    obtain ⟨⟨x0, x1⟩, x2, x3⟩ := u_box2f HP1.out
    by_cases hq : (n : Int) = m
    · have HE := hid (HEs.out.1 hq)
      have hqb : ((n : Int) == m) = true := by simpa using hq
      clear hq
      go_wp2_with fail
      go_quiet (fail)
      go_wp2_with fail
      go_ret
      refine ⟨g, c, by rw [HE.out]; rfl, ?_, ?_, u_KeepB.of_below _ (below_drewN HB1.out _)⟩
      · rw [HE.out]
        simp only [HN.out]
        exact HP1.out
      · rw [HE.out]
        exact HO.out.below (below_drewN HB1.out _)
    · have HE := hid (HEs.out.2 hq)
      have hqb : ((n : Int) == m) = false := by simpa using hq
      have hkI : (k : Int) ≤ (n : Int) := by omega
      have hncI : (n : Int) ≤ (c : Int) := by omega
      clear hq
      go_wp2_with fail
      go_quiet (fail)
      generalize hwd : w1.drewN _ = wd
      have HBd := hid (show Below w.heap.size w wd by rw [← hwd]; exact below_drewN HB1.out _)
      have HPd := hid (show wd.heap[P]? = some (.cells #[.int .i64 m, .slice (some ⟨g, 0, none⟩) n c] 32 (0, 0)) by rw [← hwd]; exact HP1.out)
      clear hwd x0 x1 x2 x3 HP1 HB1
      obtain ⟨⟨x0, x1⟩, x2, x3⟩ := u_box2f HPd.out
      have HRd' := hid (HRd.out.below HBd.out)
      have HRF := hid (HRd'.out.from hkn)
      have HRU := hid (HRd'.out.upto hkn)
      rw [roC_drop] at HRF
      rw [roC_take] at HRU
      have hfr := sl_fromR g 0 n c k hkn hnc
      have hup := sl_uptoR g 0 n c k hkn hnc
      simp only [Nat.zero_add] at hfr HRF
      obtain ⟨i0, hi0, hz0, hz1, hz2⟩ := info_parts infoRoW
      have HI := hid (And.intro hi0 (And.intro hz0 (And.intro hz1 hz2)))
      clear hi0 hz0 hz1 hz2
      generalize (if c = k then (⟨g, 0, none⟩ : Addr) else ⟨g, k * 2, none⟩) = A1 at *
      have HB1 := hid ((Below.refl wd.heap.size wd).alloc (Nat.le_refl _) (.cells #[] 78))
      have HO1 := hid (u_own_new wd 78 2)
      have HF1 := hid (HRF.out.below HB1.out)
      obtain ⟨⟨p0, p1⟩, p2, p3⟩ := u_box2f (u_blk_below HPd.out HB1.out)
      go_wp2_with (at_builtin; refine u_wpL_own _ rfl _ _ _ rfl 78 i0 _ 2 24 Tryz.underlying30 HI.out.1 HI.out.2.1 HI.out.2.2.1 HI.out.2.2.2 rfl (by decide) wd.heap.size wd.heap.size 0 0 (n - k) [] (roC (l.drop k)) _ rfl rfl HO1.out HF1.out (roC_one _) (by omega) (by omega) HB1.out.size (n - k) (by omega) (roC (l.drop k)) rfl ?_)
      intro g2 c2 w2 ho2 hb2
      have HB2 := hid (HB1.out.trans hb2)
      have HRS := hid (u_Rd.own ho2)
      have HP2 := hid (u_blk_below HPd.out HB2.out)
      clear ho2 hb2 HO1 HF1 p0 p1 p2 p3 hfr
      obtain ⟨⟨p0, p1⟩, p2, p3⟩ := u_box2f HP2.out
      have HB3 := hid ((Below.refl w2.heap.size w2).alloc (Nat.le_refl _) (.cells #[] 78))
      obtain ⟨⟨q0, q1⟩, q2, q3⟩ := u_box2f (u_blk_below HP2.out HB3.out)
      have HO3 := hid (u_own_new w2 78 2)
      have HU3 := hid ((HRU.out.below HB2.out).below HB3.out)
      go_wp2_with (at_builtin; refine u_wpL_own _ rfl _ _ _ rfl 78 i0 _ 2 24 Tryz.underlying30 HI.out.1 HI.out.2.1 HI.out.2.2.1 HI.out.2.2.2 rfl (by decide) w2.heap.size w2.heap.size 0 0 k [] (roC (l.take k)) _ rfl rfl HO3.out HU3.out (roC_one _) (by omega) (by omega) HB3.out.size k (by omega) (roC (l.take k)) rfl ?_)
      intro g4 c4 w4 ho4 hb4
      have HB4 := hid (HB3.out.trans hb4)
      have HO4 := hid ho4
      clear ho4 hb4 hup HO3 HU3 p0 p1 p2 p3 q0 q1 q2 q3
      have HB5 := hid ((Below.refl w4.heap.size w4).alloc (Nat.le_refl _) (.cells #[.string id, .int .i64 til] 78))
      have HO5 := hid (ownsRow_below HO4.out HB5.out)
      have HN5 := hid (u_Rd.new w4 78 2 (roC [⟨id, til⟩]) 1 rfl)
      go_wp2_with (at_builtin; refine u_wpL_own _ rfl _ _ _ rfl 78 i0 _ 2 24 Tryz.underlying30 HI.out.1 HI.out.2.1 HI.out.2.2.1 HI.out.2.2.2 rfl (by decide) w2.heap.size g4 c4 k 1 (roC (l.take k)) (roC [⟨id, til⟩]) _ rfl rfl HO5.out HN5.out (roC_one _) (by omega) (by omega) (Nat.le_trans HB4.out.size HB5.out.size) (k + 1) rfl (roC (l.take k ++ [⟨id, til⟩])) (by rw [roC_app]) ?_)
      intro g6 c6 w6 ho6 hb6
      have HB6 := hid ((HB4.out.trans (HB5.out.mono HB4.out.size)).trans hb6)
      have HO6 := hid ho6
      have HR6 := hid (HRS.out.below HB6.out)
      clear ho6 hb6 HO5 HN5 HO4
      go_wp2_with (at_builtin; refine u_wpL_own _ rfl _ _ _ rfl 78 i0 _ 2 24 Tryz.underlying30 HI.out.1 HI.out.2.1 HI.out.2.2.1 HI.out.2.2.2 rfl (by decide) w2.heap.size g6 c6 (k + 1) (n - k) (roC (l.take k ++ [⟨id, til⟩])) (roC (l.drop k)) _ rfl rfl HO6.out HR6.out (roC_one _) (by omega) (by omega) HB6.out.size (n + 1) (by omega) (roC (insR l k ⟨id, til⟩)) (by rw [← roC_app, List.append_assoc]; rfl) ?_)
      intro g8 c8 w8 ho8 hb8
      have HB8 := hid (HB2.out.trans ((HB6.out.trans hb8).mono HB2.out.size))
      have HP8 := hid (u_blk_below HPd.out HB8.out)
      have HGe := hid (show wd.heap.size ≤ g8 from Nat.le_trans HB2.out.size (ho8.lt _ rfl).1)
      have HO8 := hid ho8
      clear ho8 hb8
      obtain ⟨⟨p0, p1⟩, p2, p3⟩ := u_box2f HP8.out
      have HLN := hid (show (insR l k ⟨id, til⟩).length = n + 1 by rw [insR_len _ _ _ (by rw [HN.out]; exact hkn), HN.out])
      go_wp2_with fail
      go_ret
      have hPl : P < wd.heap.size := lt_of_heap HPd.out
      have hne : (Value.slice (some ⟨g8, 0, none⟩) (n + 1) c8).ownBlock ≠ some P := fun e => by
        have h1 := HGe.out
        have h2 : g8 = P := Option.some.inj e
        omega
      refine ⟨g8, c8, by rw [HE.out]; rfl, ?_, ?_, ?_⟩
      · rw [HE.out]
        simp only [HLN.out]
        have := u_heap_set (i := 1) HP8.out (.slice (some ⟨g8, 0, none⟩) (n + 1) c8)
        simpa using this
      · rw [HE.out]
        unfold RoOwn
        simp only [HLN.out]
        refine u_own_set (u_own_base HO8.out ?_) hne _ _
        have h1 := HBd.out.size
        have h2 := HB2.out.size
        have h3 := HBB.out
        omega
      · refine (u_KeepB.of_below _ HBd.out).trans ((u_KeepB.of_below _ HB8.out).trans ?_)
        exact u_KeepB.of_set _ _ _ rfl

end Go.Proofs.YtnjepdggefchnaaGreatDoor

namespace Go.Proofs.YtnjepdggefchnaaGreatDoor
open Go.RowKit
set_option linter.unusedVariables false
set_option linter.unusedSimpArgs false

set_option maxHeartbeats 1000000 in
theorem cSzHand (x : ByteArray) (n e d : Int) (L : Nat) (w : World) (hL : L ≤ 1048576) (hx : x.size ≤ maxLen) :
    Calls Tryz.prog 29 #[.agg #[.string x, .int .i64 n, .int .i64 e, .int .i64 d], .int .i64 L] w fun e w' => ∃ r : Int, e = .returned (.int .i64 r) ∧ (r = -1 ∨ 0 ≤ r ∧ r = L - x.size) ∧ Below w.heap.size w w' := by
  unfold maxLen at hx
  by_cases h1 : (L : Int) - x.size < 0
  · go_enter Tryz.func29, Tryz.ntmps29
    go_wp2
    go_ret
    exact ⟨-1, rfl, .inl rfl, (Below.refl _ _).alloc (Nat.le_refl _) _⟩
  · go_enter Tryz.func29, Tryz.ntmps29
    go_wp2
    go_ret
    exact ⟨(L : Int) - x.size, rfl, .inr ⟨by omega, rfl⟩, (Below.refl _ _).alloc (Nat.le_refl _) _⟩

set_option maxHeartbeats 2000000 in
theorem cSzHandS (a : Option Addr) (cap : Nat) (l : List Hd) (L : Nat) (w : World) (hR : HdRow w a l) (hz : HdSz maxLen l) (hn : l.length ≤ maxLen) (hL : L ≤ 1048576) :
    Calls Tryz.prog 11 #[.slice a l.length cap, .int .i64 L] w fun e w' => ∃ r : Int, e = .returned (.int .i64 r) ∧ (r = -1 ∨ 0 ≤ r ∧ r ≤ L ∧ l.length ≤ L ∧ HdSz L l) ∧ Below w.heap.size w w' := by
  have HR := hid hR
  have HZ := hid hz
  clear hR hz
  unfold maxLen at hn
  obtain ⟨n, hnn⟩ : ∃ n, l.length = n := ⟨_, rfl⟩
  have HN := hid hnn
  rw [hnn] at hn ⊢
  clear hnn
  by_cases h1 : (L : Int) - n < 0
  · go_enter Tryz.func11, Tryz.ntmps11
    go_wp2
    go_ret
    exact ⟨-1, rfl, .inl rfl, Below.refl _ _⟩
  · go_enter Tryz.func11, Tryz.ntmps11
    go_wp2
    go_loopw [1, 5] (fun v k wr => ∃ (i M : Nat), k = .int .i64 (i : Int) ∧ i ≤ n ∧ v = .int .i64 (M : Int) ∧ M + n ≤ L ∧ Hid (HdSz L (l.take i)) ∧ Hid (Below w.heap.size w wr)) (fun _ k _ => n - (intOf k).toNat)
    case atStart => exact ⟨0, L - n, rfl, Nat.zero_le _, by go_num, by omega, fun s hs => by simp at hs, Below.refl _ _⟩
    case round =>
      obtain ⟨i, M, rfl, hi, rfl, hM, HA, HB⟩ := hrel
      by_cases hlt : i < n
      · have his : i < l.length := by rw [HN.out]; exact hlt
        obtain ⟨b, o, rfl, hb, c0, c1, c2, c3⟩ := HR.out.below HB.out i his
        have hin : (i : Int) < (n : Int) := by omega
        have HT := hid (take_snocN his)
        have z1 := HZ.out _ (List.getElem_mem his)
        have C := fun w => cSzHand l[i].iss l[i].n l[i].e l[i].d M w (by omega) z1
        have HE : Hid (∀ (x : ByteArray), l[i].iss = x → x.size ≤ L → HdSz L (l.take (i + 1))) := by
          intro x hx h1
          rw [HT.out]
          intro s hs
          rcases List.mem_append.1 hs with h | h
          · exact HA.out s h
          · rw [List.mem_singleton] at h
            subst h
            rw [hx]
            exact h1
        obtain ⟨x, hx⟩ : ∃ x, l[i].iss = x := ⟨_, rfl⟩
        have HX := hid hx
        rw [hx] at c0 C
        generalize l[i].n = kn at *
        generalize l[i].e = ke at *
        generalize l[i].d = kd at *
        clear hx z1
        go_wp2_with fail
        refine (C _).mono ?_
        rintro e w2 ⟨r, rfl, hr, hb2⟩
        have HB2 := hid (bb HB.out hb2)
        clear hb2 C
        rcases hr with rfl | ⟨h0, hr⟩
        · go_wp2_with fail
          go_ret
          exact ⟨-1, rfl, .inl rfl, HB2.out⟩
        · obtain ⟨R, rfl⟩ : ∃ R : Nat, r = R := ⟨r.toNat, by omega⟩
          go_wp2_with fail
          go_roundw
          case rel => exact ⟨i + 1, R, by go_num, by omega, by first | rfl | rw [← hr], by omega, HE.out x HX.out (by omega), HB2.out⟩
          case measure => simp [intOf]; omega
      · have hie : i = n := by omega
        subst hie
        have h2 := HA.out
        rw [List.take_of_length_le (by rw [HN.out]; exact Nat.le_refl _)] at h2
        have H2 := hid h2
        clear h2
        go_wp2_with fail
        go_ret
        exact ⟨M, rfl, .inr ⟨by omega, by omega, by omega, H2.out⟩, HB.out⟩

theorem cSzTableL (t : Tb) (a : Option Addr) (cap L : Nat) (w : World) (hR : RoRow w a t.rows) (hz : RoSz maxLen t.rows) (hn : t.rows.length ≤ maxLen) (hL : L ≤ 1048576) :
    Calls Tryz.prog 12 #[tbV t a cap, .int .i64 L] w fun e w' => ∃ r : Int, e = .returned (.int .i64 r) ∧ (r = -1 ∨ 0 ≤ r ∧ r ≤ L ∧ t.rows.length ≤ L ∧ RoSz L t.rows) ∧ Below w.heap.size w w' := by
  have C := hid (fun wx (h : Below w.heap.size w wx) => cSzRowS a cap t.rows L wx (hR.below h) hz hn hL)
  have HB0 := hid ((Below.refl w.heap.size w).alloc (Nat.le_refl _) (.cells #[.int .i64 t.most, .slice a t.rows.length cap] 25))
  obtain ⟨F, hF⟩ : ∃ F : Prop, (t.rows.length ≤ L ∧ RoSz L t.rows) = F := ⟨_, rfl⟩
  unfold tbV
  rw [hF] at C ⊢
  generalize t.rows.length = n at *
  generalize t.most = m at *
  clear hR hz hF
  go_enter Tryz.func12, Tryz.ntmps12
  go_wp2_with fail
  refine (C.out _ HB0.out).mono ?_
  rintro e w1 ⟨r, rfl, hr, hb1⟩
  have HB1 := hid (bb HB0.out hb1)
  have HR2 := hid hr
  clear hb1 hr C
  by_cases h0 : r < 0
  · go_wp2_with fail
    go_ret
    exact ⟨-1, rfl, .inl rfl, HB1.out⟩
  · go_wp2_with fail
    go_ret
    exact ⟨r, rfl, HR2.out, HB1.out⟩

set_option maxRecDepth 8000 in
set_option maxHeartbeats 4000000 in
theorem cSzGate (g : Gt) (ah : Option Addr) (ch : Nat) (aa : Option Addr) (ca : Nat) (ar : Option Addr) (cr : Nat) (w : World) (hR : GtRow w g ah aa ar) (hz : GtSz maxLen g) :
    Calls Tryz.prog 4 #[gtV g ah ch aa ca ar cr, .int .i64 1048576] w fun e w' => ∃ r : Int, e = .returned (.int .i64 r) ∧ (r = -1 ∨ 0 ≤ r ∧ GtSz 1048576 g) ∧ Below w.heap.size w w' := by
  obtain ⟨z1, z2, z3, z4, z5, z6, z7⟩ := hz
  have CH := hid (fun (L : Nat) wx (h : Below w.heap.size w wx) (hL : L ≤ 1048576) => cSzHandS ah ch g.hands L wx (hR.1.below h) z2 z3 hL)
  have CA := hid (fun (L : Nat) wx (h : Below w.heap.size w wx) (hL : L ≤ 1048576) => cSzTableL g.ask aa ca L wx (hR.2.1.below h) z4 z5 hL)
  have CR := hid (fun (L : Nat) wx (h : Below w.heap.size w wx) (hL : L ≤ 1048576) => cSzTableL g.hrd ar cr L wx (hR.2.2.below h) z6 z7 hL)
  have HX0 := hid (GtBox.new w g.name (.slice ah g.hands.length ch) g.skew g.now g.ask.most (.slice aa g.ask.rows.length ca) g.hrd.most (.slice ar g.hrd.rows.length cr) 27)
  have HB0 := hid ((Below.refl w.heap.size w).alloc (Nat.le_refl _) (.cells #[.string g.name, .slice ah g.hands.length ch, .int .i64 g.skew, .int .i64 g.now, .int .i64 g.ask.most, .slice aa g.ask.rows.length ca, .int .i64 g.hrd.most, .slice ar g.hrd.rows.length cr] 27))
  have HFIN := hid (fun (L1 L2 L3 : Nat) (h0 : g.name.size ≤ 1048576) (l1 : L1 ≤ 1048576) (l2 : L2 ≤ 1048576) (l3 : L3 ≤ 1048576) (h1 : g.hands.length ≤ L1 ∧ HdSz L1 g.hands) (h2 : g.ask.rows.length ≤ L2 ∧ RoSz L2 g.ask.rows) (h3 : g.hrd.rows.length ≤ L3 ∧ RoSz L3 g.hrd.rows) => (show GtSz 1048576 g from ⟨h0, h1.2.mono l1, Nat.le_trans h1.1 l1, h2.2.mono l2, Nat.le_trans h2.1 l2, h3.2.mono l3, Nat.le_trans h3.1 l3⟩))
  unfold maxLen at z1
  obtain ⟨F, hF⟩ : ∃ F : Prop, GtSz 1048576 g = F := ⟨_, rfl⟩
  rw [hF] at HFIN ⊢
  obtain ⟨P1, hP1⟩ : ∃ P : Nat → Prop, (fun L => g.hands.length ≤ L ∧ HdSz L g.hands) = P := ⟨_, rfl⟩
  obtain ⟨P2, hP2⟩ : ∃ P : Nat → Prop, (fun L => g.ask.rows.length ≤ L ∧ RoSz L g.ask.rows) = P := ⟨_, rfl⟩
  obtain ⟨P3, hP3⟩ : ∃ P : Nat → Prop, (fun L => g.hrd.rows.length ≤ L ∧ RoSz L g.hrd.rows) = P := ⟨_, rfl⟩
  have e1 : ∀ L, (g.hands.length ≤ L ∧ HdSz L g.hands) = P1 L := fun L => congrFun hP1 L
  have e2 : ∀ L, (g.ask.rows.length ≤ L ∧ RoSz L g.ask.rows) = P2 L := fun L => congrFun hP2 L
  have e3 : ∀ L, (g.hrd.rows.length ≤ L ∧ RoSz L g.hrd.rows) = P3 L := fun L => congrFun hP3 L
  simp only [e1, e2, e3] at CH CA CR HFIN
  unfold gtV
  unfold tbV at CA CR
  clear hF hP1 hP2 hP3 e1 e2 e3 hR z2 z3 z4 z5 z6 z7
  generalize g.name = x at *
  generalize g.hands.length = nh at *
  generalize g.skew = sk at *
  generalize g.now = nw at *
  generalize g.ask.most = am at *
  generalize g.ask.rows.length = na at *
  generalize g.hrd.most = rm at *
  generalize g.hrd.rows.length = nr at *
  obtain ⟨W0, hW0⟩ : ∃ W0, w.alloc (.cells #[.string x, .slice ah nh ch, .int .i64 sk, .int .i64 nw, .int .i64 am, .slice aa na ca, .int .i64 rm, .slice ar nr cr] 27) = W0 := ⟨_, rfl⟩
  rw [hW0] at HX0 HB0
  obtain ⟨B, hB⟩ : ∃ B, w.heap.size = B := ⟨_, rfl⟩
  rw [hB] at HX0
  obtain ⟨f0, f1, f2, f3, f4, f5, f6, f7⟩ := HX0.out.cells
  by_cases h1 : x.size ≤ 1048576
  case neg =>
    have h1' : (1048576 : Int) - (x.size : Int) < 0 := by omega
    go_enter Tryz.func4, Tryz.ntmps4
    go_wp2_with fail
    go_ret
    exact ⟨-1, rfl, .inl rfl, hB ▸ HB0.out⟩
  obtain ⟨L0, hL0⟩ : ∃ L0 : Nat, (1048576 : Int) - (x.size : Int) = (L0 : Int) := ⟨(1048576 - x.size), by omega⟩
  have h0 : ¬ (L0 : Int) < 0 := by omega
  have hL1 : L0 ≤ 1048576 := by omega
  have hw : IntKind.i64.wrap (L0 : Int) = (L0 : Int) := IntWalk.i64_in _ (by omega)
  have H1 := hid h1
  clear h1
  go_enter Tryz.func4, Tryz.ntmps4
  go_wp2_with fail
  clear hW0 f0 f1 f2 f3 f4 f5 f6 f7 hL0
  refine (CH.out L0 _ HB0.out hL1).mono ?_
  rintro e w1 ⟨r, rfl, hr, hb⟩
  have HB1 := hid (bb HB0.out hb)
  have HX1 := hid (HX0.out.below hb)
  clear hb CH
  rcases hr with rfl | ⟨h01, hl1, hq1⟩
  · go_wp2_with fail
    go_ret
    exact ⟨-1, rfl, .inl rfl, HB1.out⟩
  obtain ⟨L1, rfl⟩ : ∃ L : Nat, r = (L : Int) := ⟨r.toNat, by omega⟩
  have hL2 : L1 ≤ 1048576 := by omega
  have HQ1 := hid hq1
  clear hq1 h01
  have hn1 : ¬ (L1 : Int) < 0 := by omega
  obtain ⟨f0, f1, f2, f3, f4, f5, f6, f7⟩ := HX1.out.cells
  go_wp2_with fail
  clear f0 f1 f2 f3 f4 f5 f6 f7
  refine (CA.out L1 _ HB1.out hL2).mono ?_
  rintro e w2 ⟨r, rfl, hr, hb⟩
  have HB2 := hid (bb HB1.out hb)
  have HX2 := hid (HX1.out.below hb)
  clear hb CA
  rcases hr with rfl | ⟨h02, hl2, hq2⟩
  · go_wp2_with fail
    go_ret
    exact ⟨-1, rfl, .inl rfl, HB2.out⟩
  obtain ⟨L2, rfl⟩ : ∃ L : Nat, r = (L : Int) := ⟨r.toNat, by omega⟩
  have hL3 : L2 ≤ 1048576 := by omega
  have HQ2 := hid hq2
  clear hq2 h02
  have hn2 : ¬ (L2 : Int) < 0 := by omega
  obtain ⟨f0, f1, f2, f3, f4, f5, f6, f7⟩ := HX2.out.cells
  go_wp2_with fail
  clear f0 f1 f2 f3 f4 f5 f6 f7
  refine (CR.out L2 _ HB2.out hL3).mono ?_
  rintro e w3 ⟨r, rfl, hr, hb⟩
  have HB3 := hid (bb HB2.out hb)
  have HX3 := hid (HX2.out.below hb)
  clear hb CR
  rcases hr with rfl | ⟨h03, hl3, hq3⟩
  · go_wp2_with fail
    go_ret
    exact ⟨-1, rfl, .inl rfl, HB3.out⟩
  obtain ⟨L3, rfl⟩ : ∃ L : Nat, r = (L : Int) := ⟨r.toNat, by omega⟩
  have hL4 : L3 ≤ 1048576 := by omega
  have HQ3 := hid hq3
  clear hq3 h03
  have hn3 : ¬ (L3 : Int) < 0 := by omega
  obtain ⟨f0, f1, f2, f3, f4, f5, f6, f7⟩ := HX3.out.cells
  go_wp2_with fail
  clear f0 f1 f2 f3 f4 f5 f6 f7
  go_ret
  exact ⟨_, rfl, .inr ⟨by omega, HFIN.out L0 L1 L2 H1.out hL1 hL2 hL3 HQ1.out HQ2.out HQ3.out⟩, HB3.out⟩

theorem cEqHand (x : ByteArray) (n e d : Int) (w : World) :
    Calls Tryz.prog 48 #[.agg #[.string x, .int .i64 n, .int .i64 e, .int .i64 d], .agg #[.string x, .int .i64 n, .int .i64 e, .int .i64 d]] w fun r w' => r = .returned (.bool true) ∧ Below w.heap.size w w' := by
  have C := hid (fun wx => g_cEqKey n e d wx)
  have HB0 := hid (((Below.refl w.heap.size w).alloc (Nat.le_refl _) (.cells #[.string x, .int .i64 n, .int .i64 e, .int .i64 d] 69)).alloc (by simp) (.cells #[.string x, .int .i64 n, .int .i64 e, .int .i64 d] 69))
  go_enter Tryz.func48, Tryz.ntmps48
  go_wp2_with fail
  refine (C.out _).mono ?_
  rintro r w1 ⟨rfl, hb1⟩
  have HB1 := hid (bb HB0.out hb1)
  clear hb1
  go_wp2_with fail
  go_ret
  exact ⟨rfl, HB1.out⟩

theorem g_pair_bw {W : World} {b o : Nat} {v0 v1 v2 v3 : Value} (hb : b < W.heap.size) (h0 : W.cell? ⟨b, o, none⟩ = some v0) (h1 : W.cell? ⟨b, o + 1, none⟩ = some v1) (h2 : W.cell? ⟨b, o + 2, none⟩ = some v2) (h3 : W.cell? ⟨b, o + 3, none⟩ = some v3) :
    (∀ p : BW W, p.w.cell? ⟨b, o, none⟩ = some v0) ∧ (∀ p : BW W, p.w.cell? ⟨b, o + 1, none⟩ = some v1) ∧ (∀ p : BW W, p.w.cell? ⟨b, o + 2, none⟩ = some v2) ∧ (∀ p : BW W, p.w.cell? ⟨b, o + 3, none⟩ = some v3) :=
  ⟨(pair_bw hb h0 h1).1, (pair_bw hb h0 h1).2, (pair_bw hb h2 h3).1, (pair_bw hb h2 h3).2⟩

set_option maxHeartbeats 2000000 in
theorem cEqHandS (a c : Option Addr) (cap cap2 : Nat) (l : List Hd) (w : World) (hR : HdRow w a l) (hT : HdRow w c l) (hn : l.length ≤ 1048576) :
    Calls Tryz.prog 23 #[.slice a l.length cap, .slice c l.length cap2] w fun e w' => e = .returned (.bool true) ∧ Below w.heap.size w w' := by
  have HR := hid hR
  have HT := hid hT
  clear hR hT
  obtain ⟨n, hnn⟩ : ∃ n, l.length = n := ⟨_, rfl⟩
  have HN := hid hnn
  rw [hnn] at hn ⊢
  clear hnn
  go_enter Tryz.func23, Tryz.ntmps23
  go_wp2
  go_loopw [5] (fun k wr => ∃ i : Nat, k = .int .i64 (i : Int) ∧ i ≤ n ∧ Hid (Below w.heap.size w wr)) (fun k _ => n - (intOf k).toNat)
  case atStart => exact ⟨0, rfl, Nat.zero_le _, Below.refl _ _⟩
  case round =>
    obtain ⟨i, rfl, hi, HB⟩ := hrel
    by_cases hlt : i < n
    · have his : i < l.length := by rw [HN.out]; exact hlt
      have hin : (i : Int) < (n : Int) := by omega
      obtain ⟨b, o, rfl, hb, c0, c1, c2, c3⟩ := HR.out.below HB.out i his
      obtain ⟨b2, o2, rfl, hb', k0, k1, k2, k3⟩ := HT.out.below HB.out i his
      have C := fun w => cEqHand l[i].iss l[i].n l[i].e l[i].d w
      generalize l[i].iss = x at *
      generalize l[i].n = kn at *
      generalize l[i].e = ke at *
      generalize l[i].d = kd at *
      have HNB := hid (bw_any wr)
      obtain ⟨d0, d1, d2, d3⟩ := g_pair_bw hb c0 c1 c2 c3
      obtain ⟨j0, j1, j2, j3⟩ := g_pair_bw hb' k0 k1 k2 k3
      clear c0 c1 c2 c3 k0 k1 k2 k3
      go_wp2_with fail
      haveI := HNB.out
      refine wp_region_below (by kernel_rfl) (by kernel_rfl) (Below.refl wr.heap.size wr) ?_
      repeat (go_big_quiet_step ((go_at_call 48; exact calls_bw _ (C _))))
      refine wpQuiet_nil ?_
      intro wq hw'
      obtain ⟨⟨wz, hwq⟩, hw''⟩ := hw'
      subst hw''
      have HB2 := hid (bb HB.out hwq)
      clear C d0 d1 d2 d3 j0 j1 j2 j3
      go_wp2_with fail
      go_roundw
      case rel => exact ⟨i + 1, by go_num, by omega, HB2.out⟩
      case measure => simp [intOf]; omega
    · have hie : i = n := by omega
      subst hie
      go_wp2_with fail
      go_ret
      exact ⟨rfl, HB.out⟩

set_option maxRecDepth 8000 in
set_option maxHeartbeats 4000000 in
theorem cEqGate (g : Gt) (ah bh : Option Addr) (ch dh : Nat) (aa ba : Option Addr) (ca da : Nat) (ar br : Option Addr) (cr dr : Nat) (w : World) (hR : GtRow w g ah aa ar) (hS : GtRow w g bh ba br) (hz : GtSz 1048576 g) :
    Calls Tryz.prog 8 #[gtV g ah ch aa ca ar cr, gtV g bh dh ba da br dr] w fun e w' => e = .returned (.bool true) ∧ Below w.heap.size w w' := by
  obtain ⟨z1, z2, z3, z4, z5, z6, z7⟩ := hz
  have CH := hid (fun wx (h : Below w.heap.size w wx) => cEqHandS ah bh ch dh g.hands wx (hR.1.below h) (hS.1.below h) z3)
  have CA := hid (fun wx (h : Below w.heap.size w wx) => cEqTable g.ask aa ba ca da wx (hR.2.1.below h) (hS.2.1.below h) z4 z5)
  have CR := hid (fun wx (h : Below w.heap.size w wx) => cEqTable g.hrd ar br cr dr wx (hR.2.2.below h) (hS.2.2.below h) z6 z7)
  unfold gtV
  unfold tbV at CA CR
  clear hR hS z1 z2 z3 z4 z5 z6 z7
  generalize g.name = x at *
  generalize g.hands.length = nh at *
  generalize g.skew = sk at *
  generalize g.now = nw at *
  generalize g.ask.most = am at *
  generalize g.ask.rows.length = na at *
  generalize g.hrd.most = rm at *
  generalize g.hrd.rows.length = nr at *
  obtain ⟨o1, ho1⟩ : ∃ o, Obj.cells #[.string x, .slice ah nh ch, .int .i64 sk, .int .i64 nw, .int .i64 am, .slice aa na ca, .int .i64 rm, .slice ar nr cr] 34 (0, 0) = o := ⟨_, rfl⟩
  obtain ⟨o2, ho2⟩ : ∃ o, Obj.cells #[.string x, .slice bh nh dh, .int .i64 sk, .int .i64 nw, .int .i64 am, .slice ba na da, .int .i64 rm, .slice br nr dr] 34 (0, 0) = o := ⟨_, rfl⟩
  have HX0 := hid (show GtBox ((w.alloc o1).alloc o2) w.heap.size x (.slice ah nh ch) sk nw am (.slice aa na ca) rm (.slice ar nr cr) from GtBox.of (T := 34) (by rw [(u_heap2 w o1 o2).1, ho1]))
  have HY0 := hid (show GtBox ((w.alloc o1).alloc o2) (w.heap.size + 1) x (.slice bh nh dh) sk nw am (.slice ba na da) rm (.slice br nr dr) from GtBox.of (T := 34) (by rw [(u_heap2 w o1 o2).2, ho2]))
  have HB0 := hid (((Below.refl w.heap.size w).alloc (Nat.le_refl _) o1).alloc (by simp) o2)
  rw [← ho1, ← ho2] at HX0 HY0 HB0
  clear ho1 ho2 o1 o2
  obtain ⟨W0, hW0⟩ : ∃ W0, (w.alloc (.cells #[.string x, .slice ah nh ch, .int .i64 sk, .int .i64 nw, .int .i64 am, .slice aa na ca, .int .i64 rm, .slice ar nr cr] 34)).alloc (.cells #[.string x, .slice bh nh dh, .int .i64 sk, .int .i64 nw, .int .i64 am, .slice ba na da, .int .i64 rm, .slice br nr dr] 34) = W0 := ⟨_, rfl⟩
  rw [hW0] at HX0 HY0 HB0
  obtain ⟨B, hB⟩ : ∃ B, w.heap.size = B := ⟨_, rfl⟩
  rw [hB] at HX0 HY0
  have e2 : (sk != sk) = false := by simp
  have e3 : (nw != nw) = false := by simp
  obtain ⟨f0, f1, f2, f3, f4, f5, f6, f7⟩ := HX0.out.cells
  obtain ⟨y0, y1, y2, y3, y4, y5, y6, y7⟩ := HY0.out.cells
  go_enter Tryz.func8, Tryz.ntmps8
  go_wp2_with fail
  clear hW0
  refine (CH.out _ HB0.out).mono ?_
  rintro e w1 ⟨rfl, hb⟩
  have HB1 := hid (bb HB0.out hb)
  have HX1 := hid (HX0.out.below hb)
  have HY1 := hid (HY0.out.below hb)
  clear hb f0 f1 f2 f3 f4 f5 f6 f7 y0 y1 y2 y3 y4 y5 y6 y7
  obtain ⟨f0, f1, f2, f3, f4, f5, f6, f7⟩ := HX1.out.cells
  obtain ⟨y0, y1, y2, y3, y4, y5, y6, y7⟩ := HY1.out.cells
  go_wp2_with fail
  refine (CA.out _ HB1.out).mono ?_
  rintro e w2 ⟨rfl, hb⟩
  have HB2 := hid (bb HB1.out hb)
  have HX2 := hid (HX1.out.below hb)
  have HY2 := hid (HY1.out.below hb)
  clear hb f0 f1 f2 f3 f4 f5 f6 f7 y0 y1 y2 y3 y4 y5 y6 y7
  obtain ⟨f0, f1, f2, f3, f4, f5, f6, f7⟩ := HX2.out.cells
  obtain ⟨y0, y1, y2, y3, y4, y5, y6, y7⟩ := HY2.out.cells
  go_wp2_with fail
  refine (CR.out _ HB2.out).mono ?_
  rintro e w3 ⟨rfl, hb⟩
  have HB3 := hid (bb HB2.out hb)
  clear hb f0 f1 f2 f3 f4 f5 f6 f7 y0 y1 y2 y3 y4 y5 y6 y7
  go_wp2_with fail
  go_ret
  exact ⟨rfl, hB ▸ HB3.out⟩

end Go.Proofs.YtnjepdggefchnaaGreatDoor
