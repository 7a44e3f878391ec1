/- Contracts of the specification's l16Copy, l16Enter, Entered, l16Remove, Removed. -/
import Derived.Test.YtnddphmcagcdiaaURow
import Derived.Test.YtnddphmcagcdiaaULaw
import Derived.Deep.RegionHeld3
namespace Go.Proofs.Ytnddphmcagcdiaa
open Go.RowKit
set_option linter.unusedVariables false
set_option linter.unusedSimpArgs false

/-- Two boxes behind w. -/
theorem u_heap2 (w : World) (o1 o2 : Obj) : ((w.alloc o1).alloc o2).heap[w.heap.size]? = some o1 ∧ ((w.alloc o1).alloc o2).heap[w.heap.size + 1]? = some o2 := by
  have h1 := heap_alloc_new w o1
  have h2 := heap_alloc_new (w.alloc o1) o2
  rw [World.size_alloc] at h2
  exact ⟨(Below.heap_alloc _ _ _ (by simp)).trans h1, h2⟩

set_option maxRecDepth 8000 in
set_option maxHeartbeats 4000000 in
theorem cCopyS (t : Tb) (a : Option Addr) (cap : Nat) (w : World) (hR : RoRow w a t.rows) (hn : t.rows.length ≤ 100000) :
    Calls Try.prog 29 #[tbV t a cap] w fun e w' => ∃ g c, e = .returned (tbV t (some ⟨g, 0, none⟩) c) ∧ RoOwn w' w.heap.size g c t.rows ∧ Below w.heap.size w w' := by
  obtain ⟨m, l⟩ := t
  unfold RoOwn
  simp only at hR hn
  simp only [tbV]
  obtain ⟨i0, hi, hz0, hz1, hz2⟩ := info_parts infoRoW
  have HI := hid (And.intro hi (And.intro hz0 (And.intro hz1 hz2)))
  obtain ⟨n, hnn⟩ : ∃ n, l.length = n := ⟨_, rfl⟩
  have HS0 := hid (hR.sr (n := n) (c := cap) hnn)
  rw [hnn] at hn ⊢
  obtain ⟨b1, b2⟩ := u_heap2 w (.cells #[.int .i64 m, .slice a n cap] 26) (.cells #[.int .i64 0, .slice none 0 0] 26)
  have HB0 := hid (((Below.refl w.heap.size w).alloc (Nat.le_refl _) (.cells #[.int .i64 m, .slice a n cap] 26)).alloc (by simp) (.cells #[.int .i64 0, .slice none 0 0] 26))
  obtain ⟨W0, hW0⟩ : ∃ W0, ((w.alloc (.cells #[.int .i64 m, .slice a n cap] 26)).alloc (.cells #[.int .i64 0, .slice none 0 0] 26)) = W0 := ⟨_, rfl⟩
  rw [hW0] at b1 b2 HB0
  obtain ⟨B, hB⟩ : ∃ B, w.heap.size = B := ⟨_, rfl⟩
  rw [hB] at b1 b2
  have HM1 := hid b1
  have HM2 := hid b2
  have HSr := hid (HS0.out.below HB0.out)
  clear hi hz0 hz1 hz2 hR hnn b1 b2 HS0
  go_enter Try.func29, Try.ntmps29
  go_wp2_with fail
  obtain ⟨⟨f0, f1⟩, f2, f3⟩ := u_box2f HM1.out
  obtain ⟨⟨k0, k1⟩, k2, k3⟩ := u_box2f HM2.out
  have HBx := hid ((Below.refl W0.heap.size W0).alloc (Nat.le_refl _) (.cells #[] 33))
  obtain ⟨⟨p0, p1⟩, p2, p3⟩ := u_box2f (u_blk_below HM1.out HBx.out)
  obtain ⟨⟨q0, q1⟩, q2, q3⟩ := u_box2f (u_blk_below HM2.out HBx.out)
  have HBc := hid ((Below.refl W0.heap.size W0).drew)
  go_region_law (first
      | (refine u_step_src rfl (.tmp 5) (.tmp 7) _ rfl 33 i0 _ 2 24 Try.underlying24 HI.out.1 HI.out.2.1 HI.out.2.2.1 HI.out.2.2.2 rfl (by decide) W0.heap.size W0.heap.size 0 0 n [] (roC l) (.slice a n cap) (by simp [Act.eval, Act.put]) (by simp [Act.eval, Act.put]) (u_own_new W0.drew _ _) (HSr.out.below (HBc.out.alloc HBc.out.size _)) (roC_one l) (by omega) (by omega) (HBc.out.alloc HBc.out.size _).size n (by omega) (roC l) rfl ?_; intro g6 c6 w6 ho6 hb6 hg6; have HO6 := hid ho6; have HB6 := hid ((HBc.out.alloc HBc.out.size (.cells #[] 33)).trans hb6); obtain ⟨⟨r0, r1⟩, r2, r3⟩ := u_box2f (u_blk_below HM1.out HB6.out); obtain ⟨⟨s0, s1⟩, s2, s3⟩ := u_box2f (u_blk_below HM2.out HB6.out); clear ho6 hb6 hg6))
  all_goals
    have HD := hid ((show B + 1 < W0.heap.size from lt_of_heap HM2.out))
    have HW := hid ((HB0.out.trans (HB6.out.mono HB0.out.size)))
    have HO7 := hid (u_own_base HO6.out (show B ≤ W0.heap.size by have := HD.out; omega))
    go_wp2_with fail
    refine bodyPost_ret (v := .agg #[.int .i64 m, .slice (some ⟨g6, 0, none⟩) n c6]) (by simp [results, Try.results29, go_sem, r0, r1, s0, s1]) rfl ⟨g6, c6, rfl, ?_, ?_⟩
    · have hg6 : (Value.slice (some ⟨g6, 0, none⟩) n c6).ownBlock ≠ some (B + 1) := fun e => by
        have h1 := (HO6.out.lt _ e).1
        have h2 := HD.out
        omega
      rw [hB]
      exact u_own_set (u_own_set HO7.out hg6 _ _) hg6 _ _
    · iterate 2 refine Below.setCell ?_ (show w.heap.size ≤ B + 1 by omega) _
      exact HW.out

theorem enterT_there {t : Tb} {id : ByteArray} {til : Int} (h : isR t.rows id = true) : enterT t id til = (t, 1) := if_pos h
theorem enterT_full {t : Tb} {id : ByteArray} {til : Int} (h : isR t.rows id = false) (h2 : (t.rows.length : Int) = t.most) : enterT t id til = (t, 2) := by
  unfold enterT
  rw [if_neg (by rw [h]; exact Bool.false_ne_true), if_pos h2]
theorem enterT_in {t : Tb} {id : ByteArray} {til : Int} (h : isR t.rows id = false) (h2 : ¬ (t.rows.length : Int) = t.most) : enterT t id til = (⟨t.most, insR t.rows (findR t.rows id) ⟨id, til⟩⟩, 0) := by
  unfold enterT
  rw [if_neg (by rw [h]; exact Bool.false_ne_true), if_neg h2]

/-- What l16Enter leaves. -/
def EnterPost (P B : Nat) (T : Tb × Int) (w : World) (e : Ending) (w' : World) : Prop :=
  ∃ g' c', e = .returned (.int .i64 T.2) ∧ w'.heap[P]? = some (.cells #[.int .i64 T.1.most, .slice (some ⟨g', 0, none⟩) T.1.rows.length c'] 26 (0, 0)) ∧ RoOwn w' B g' c' T.1.rows ∧ u_KeepB (fun b => b = P) w w'

set_option maxRecDepth 8000 in
set_option maxHeartbeats 8000000 in
theorem cEnterS (P B g c : Nat) (m : Int) (l : List Ro) (id : ByteArray) (til : Int) (w : World) (hP : w.heap[P]? = some (.cells #[.int .i64 m, .slice (some ⟨g, 0, none⟩) l.length c] 26 (0, 0)))
    (hO : RoOwn w B g c l) (hn : l.length ≤ 100000) (hz : RoSz 1048576 l) (hi : id.size ≤ 1048576) (hB : B ≤ w.heap.size) :
    Calls Try.prog 42 #[.pointer (some ⟨P, 0, none⟩), .string id, .int .i64 til] w (EnterPost P B (enterT ⟨m, l⟩ id til) w) := by
  have CF := hid (cFindS ⟨m, l⟩ (some ⟨g, 0, none⟩) c id w hO.row hz (Nat.le_trans hn (by decide)) hi)
  unfold tbV at CF
  simp only at CF
  have HK := hid (findR_le l id)
  obtain ⟨k, hk⟩ : ∃ k, findR l id = k := ⟨_, rfl⟩
  have HP := hid hP
  have HO := hid hO
  have HKE := hid hk
  have HBB := hid hB
  rw [hk] at CF HK
  have HL : Hid (∀ n, l.length = n → ((isR l id = true → enterT ⟨m, l⟩ id til = (⟨m, l⟩, 1)) ∧ (isR l id = false → (n : Int) = m → enterT ⟨m, l⟩ id til = (⟨m, l⟩, 2)) ∧ (isR l id = false → ¬ (n : Int) = m → enterT ⟨m, l⟩ id til = (⟨m, insR l k ⟨id, til⟩⟩, 0)))) := fun n hn => by
    refine ⟨fun h => enterT_there (t := ⟨m, l⟩) h, fun h h2 => enterT_full (t := ⟨m, l⟩) h (by rw [hn]; exact h2), fun h h2 => ?_⟩
    rw [enterT_in (t := ⟨m, l⟩) h (by rw [hn]; exact h2)]
    simp only [hk]
  obtain ⟨T, hT⟩ : ∃ T, enterT ⟨m, l⟩ id til = T := ⟨_, rfl⟩
  rw [hT]
  simp only [hT] at HL
  obtain ⟨n, hnn⟩ : ∃ n, l.length = n := ⟨_, rfl⟩
  have HN := hid hnn
  have HLn := hid (HL.out n hnn)
  have HRd := hid hO.rd
  rw [hnn] at CF HK HP hn HRd
  have HC := hid (show n ≤ c by obtain ⟨b, o, c', e, _, h3, _⟩ := HRd.out.at_; cases e; exact h3)
  have hkn : k ≤ n := HK.out
  have hnc : n ≤ c := HC.out
  obtain ⟨⟨x0, x1⟩, x2, x3⟩ := u_box2f HP.out
  clear hP hO hz hk hT hnn HL hB
  cases hI : isR l id with
  | true =>
    have HE := hid (HLn.out.1 hI)
    rw [hI] at CF
    clear hI
    go_enter Try.func42, Try.ntmps42
    go_wp2_with fail
    refine CF.out.mono ?_
    rintro e w1 ⟨rfl, hb1⟩
    have HB1 := hid hb1
    clear hb1 CF
    go_wp2_with fail
    go_ret
    refine ⟨g, c, by rw [HE.out]; rfl, ?_, ?_, u_KeepB.of_below _ HB1.out⟩
    · rw [HE.out]
      simp only [HN.out]
      exact u_blk_below HP.out HB1.out
    · rw [HE.out]
      exact HO.out.below HB1.out
  | false =>
    have HEs := hid (And.intro (HLn.out.2.1 hI) (HLn.out.2.2 hI))
    rw [hI] at CF
    clear hI HLn
    go_enter Try.func42, Try.ntmps42
    go_wp2_with fail
    refine CF.out.mono ?_
    rintro e w1 ⟨rfl, hb1⟩
    have HB1 := hid hb1
    have HP1 := hid (u_blk_below HP.out hb1)
    clear hb1 CF x0 x1 x2 x3
    obtain ⟨⟨x0, x1⟩, x2, x3⟩ := u_box2f HP1.out
    by_cases hq : (n : Int) = m
    · have HE := hid (HEs.out.1 hq)
      have hqb : ((n : Int) == m) = true := by simpa using hq
      clear hq
      go_wp2_with fail
      go_quiet (fail)
      go_wp2_with fail
      go_ret
      refine ⟨g, c, by rw [HE.out]; rfl, ?_, ?_, u_KeepB.of_below _ (below_drewN HB1.out _)⟩
      · rw [HE.out]
        simp only [HN.out]
        exact HP1.out
      · rw [HE.out]
        exact HO.out.below (below_drewN HB1.out _)
    · have HE := hid (HEs.out.2 hq)
      have hqb : ((n : Int) == m) = false := by simpa using hq
      have hkI : (k : Int) ≤ (n : Int) := by omega
      have hncI : (n : Int) ≤ (c : Int) := by omega
      clear hq
      go_wp2_with fail
      go_quiet (fail)
      generalize hwd : w1.drewN _ = wd
      have HBd := hid (show Below w.heap.size w wd by rw [← hwd]; exact below_drewN HB1.out _)
      have HPd := hid (show wd.heap[P]? = some (.cells #[.int .i64 m, .slice (some ⟨g, 0, none⟩) n c] 26 (0, 0)) by rw [← hwd]; exact HP1.out)
      clear hwd x0 x1 x2 x3 HP1 HB1
      obtain ⟨⟨x0, x1⟩, x2, x3⟩ := u_box2f HPd.out
      have HRd' := hid (HRd.out.below HBd.out)
      have HRF := hid (HRd'.out.from hkn)
      have HRU := hid (HRd'.out.upto hkn)
      rw [roC_drop] at HRF
      rw [roC_take] at HRU
      have hfr := sl_fromR g 0 n c k hkn hnc
      have hup := sl_uptoR g 0 n c k hkn hnc
      simp only [Nat.zero_add] at hfr HRF
      obtain ⟨i0, hi0, hz0, hz1, hz2⟩ := info_parts infoRoW
      have HI := hid (And.intro hi0 (And.intro hz0 (And.intro hz1 hz2)))
      clear hi0 hz0 hz1 hz2
      generalize (if c = k then (⟨g, 0, none⟩ : Addr) else ⟨g, k * 2, none⟩) = A1 at *
      have HB1 := hid ((Below.refl wd.heap.size wd).alloc (Nat.le_refl _) (.cells #[] 33))
      have HO1 := hid (u_own_new wd 33 2)
      have HF1 := hid (HRF.out.below HB1.out)
      obtain ⟨⟨p0, p1⟩, p2, p3⟩ := u_box2f (u_blk_below HPd.out HB1.out)
      go_wp2_with (at_builtin; refine u_wpL_own _ rfl _ _ _ rfl 33 i0 _ 2 24 Try.underlying24 HI.out.1 HI.out.2.1 HI.out.2.2.1 HI.out.2.2.2 rfl (by decide) wd.heap.size wd.heap.size 0 0 (n - k) [] (roC (l.drop k)) _ rfl rfl HO1.out HF1.out (roC_one _) (by omega) (by omega) HB1.out.size (n - k) (by omega) (roC (l.drop k)) rfl ?_)
      intro g2 c2 w2 ho2 hb2
      have HB2 := hid (HB1.out.trans hb2)
      have HRS := hid (u_Rd.own ho2)
      have HP2 := hid (u_blk_below HPd.out HB2.out)
      clear ho2 hb2 HO1 HF1 p0 p1 p2 p3 hfr
      obtain ⟨⟨p0, p1⟩, p2, p3⟩ := u_box2f HP2.out
      have HB3 := hid ((Below.refl w2.heap.size w2).alloc (Nat.le_refl _) (.cells #[] 33))
      obtain ⟨⟨q0, q1⟩, q2, q3⟩ := u_box2f (u_blk_below HP2.out HB3.out)
      have HO3 := hid (u_own_new w2 33 2)
      have HU3 := hid ((HRU.out.below HB2.out).below HB3.out)
      go_wp2_with (at_builtin; refine u_wpL_own _ rfl _ _ _ rfl 33 i0 _ 2 24 Try.underlying24 HI.out.1 HI.out.2.1 HI.out.2.2.1 HI.out.2.2.2 rfl (by decide) w2.heap.size w2.heap.size 0 0 k [] (roC (l.take k)) _ rfl rfl HO3.out HU3.out (roC_one _) (by omega) (by omega) HB3.out.size k (by omega) (roC (l.take k)) rfl ?_)
      intro g4 c4 w4 ho4 hb4
      have HB4 := hid (HB3.out.trans hb4)
      have HO4 := hid ho4
      clear ho4 hb4 hup HO3 HU3 p0 p1 p2 p3 q0 q1 q2 q3
      have HB5 := hid ((Below.refl w4.heap.size w4).alloc (Nat.le_refl _) (.cells #[.string id, .int .i64 til] 33))
      have HO5 := hid (ownsRow_below HO4.out HB5.out)
      have HN5 := hid (u_Rd.new w4 33 2 (roC [⟨id, til⟩]) 1 rfl)
      go_wp2_with (at_builtin; refine u_wpL_own _ rfl _ _ _ rfl 33 i0 _ 2 24 Try.underlying24 HI.out.1 HI.out.2.1 HI.out.2.2.1 HI.out.2.2.2 rfl (by decide) w2.heap.size g4 c4 k 1 (roC (l.take k)) (roC [⟨id, til⟩]) _ rfl rfl HO5.out HN5.out (roC_one _) (by omega) (by omega) (Nat.le_trans HB4.out.size HB5.out.size) (k + 1) rfl (roC (l.take k ++ [⟨id, til⟩])) (by rw [roC_app]) ?_)
      intro g6 c6 w6 ho6 hb6
      have HB6 := hid ((HB4.out.trans (HB5.out.mono HB4.out.size)).trans hb6)
      have HO6 := hid ho6
      have HR6 := hid (HRS.out.below HB6.out)
      clear ho6 hb6 HO5 HN5 HO4
      go_wp2_with (at_builtin; refine u_wpL_own _ rfl _ _ _ rfl 33 i0 _ 2 24 Try.underlying24 HI.out.1 HI.out.2.1 HI.out.2.2.1 HI.out.2.2.2 rfl (by decide) w2.heap.size g6 c6 (k + 1) (n - k) (roC (l.take k ++ [⟨id, til⟩])) (roC (l.drop k)) _ rfl rfl HO6.out HR6.out (roC_one _) (by omega) (by omega) HB6.out.size (n + 1) (by omega) (roC (insR l k ⟨id, til⟩)) (by rw [← roC_app, List.append_assoc]; rfl) ?_)
      intro g8 c8 w8 ho8 hb8
      have HB8 := hid (HB2.out.trans ((HB6.out.trans hb8).mono HB2.out.size))
      have HP8 := hid (u_blk_below HPd.out HB8.out)
      have HGe := hid (show wd.heap.size ≤ g8 from Nat.le_trans HB2.out.size (ho8.lt _ rfl).1)
      have HO8 := hid ho8
      clear ho8 hb8
      obtain ⟨⟨p0, p1⟩, p2, p3⟩ := u_box2f HP8.out
      have HLN := hid (show (insR l k ⟨id, til⟩).length = n + 1 by rw [insR_len _ _ _ (by rw [HN.out]; exact hkn), HN.out])
      go_wp2_with fail
      go_ret
      have hPl : P < wd.heap.size := lt_of_heap HPd.out
      have hne : (Value.slice (some ⟨g8, 0, none⟩) (n + 1) c8).ownBlock ≠ some P := fun e => by
        have h1 := HGe.out
        have h2 : g8 = P := Option.some.inj e
        omega
      refine ⟨g8, c8, by rw [HE.out]; rfl, ?_, ?_, ?_⟩
      · rw [HE.out]
        simp only [HLN.out]
        have := u_heap_set (i := 1) HP8.out (.slice (some ⟨g8, 0, none⟩) (n + 1) c8)
        simpa using this
      · rw [HE.out]
        unfold RoOwn
        simp only [HLN.out]
        refine u_own_set (u_own_base HO8.out ?_) hne _ _
        have h1 := HBd.out.size
        have h2 := HB2.out.size
        have h3 := HBB.out
        omega
      · refine (u_KeepB.of_below _ HBd.out).trans ((u_KeepB.of_below _ HB8.out).trans ?_)
        exact u_KeepB.of_set _ _ _ rfl

end Go.Proofs.Ytnddphmcagcdiaa
