/- Contracts of the specification's l16Remove, Removed. -/
import Derived.Test.YtmbomjmenbfhmaaUSpecC
namespace Go.Proofs.Ytmbomjmenbfhmaa
open Go.RowKit
set_option linter.unusedVariables false
set_option linter.unusedSimpArgs false

theorem removeT_no {t : Tb} {id : ByteArray} (h : isR t.rows id = false) : removeT t id = (t, false) := if_neg (by rw [h]; exact Bool.false_ne_true)
theorem removeT_yes {t : Tb} {id : ByteArray} (h : isR t.rows id = true) : removeT t id = (⟨t.most, t.rows.take (findR t.rows id) ++ t.rows.drop (findR t.rows id + 1)⟩, true) := if_pos h

/-- What l16Remove leaves. -/
def RemovePost (P B : Nat) (T : Tb × Bool) (w : World) (e : Ending) (w' : World) : Prop :=
  ∃ g' c', e = .returned (.bool T.2) ∧ w'.heap[P]? = some (.cells #[.int .i64 T.1.most, .slice (some ⟨g', 0, none⟩) T.1.rows.length c'] 26 (0, 0)) ∧ RoOwn w' B g' c' T.1.rows ∧ u_KeepB (fun b => b = P) w w'

set_option maxRecDepth 8000 in
set_option maxHeartbeats 8000000 in
theorem cRemoveS (P B g c : Nat) (m : Int) (l : List Ro) (id : ByteArray) (w : World) (hP : w.heap[P]? = some (.cells #[.int .i64 m, .slice (some ⟨g, 0, none⟩) l.length c] 26 (0, 0)))
    (hO : RoOwn w B g c l) (hn : l.length ≤ 100000) (hz : RoSz 1048576 l) (hi : id.size ≤ 1048576) (hB : B ≤ w.heap.size) :
    Calls Try.prog 51 #[.pointer (some ⟨P, 0, none⟩), .string id] w (RemovePost P B (removeT ⟨m, l⟩ id) w) := by
  have CF := hid (cFindS ⟨m, l⟩ (some ⟨g, 0, none⟩) c id w hO.row hz (Nat.le_trans hn (by decide)) hi)
  unfold tbV at CF
  simp only at CF
  obtain ⟨k, hk⟩ : ∃ k, findR l id = k := ⟨_, rfl⟩
  have HP := hid hP
  have HO := hid hO
  have HKE := hid hk
  have HBB := hid hB
  have HKL := hid (show isR l id = true → k < l.length from fun h => by obtain ⟨q, _⟩ := isR_some h; rw [← hk]; exact q)
  have HL : Hid ((isR l id = false → removeT ⟨m, l⟩ id = (⟨m, l⟩, false)) ∧ (isR l id = true → removeT ⟨m, l⟩ id = (⟨m, l.take k ++ l.drop (k + 1)⟩, true))) := by
    refine ⟨fun h => removeT_no (t := ⟨m, l⟩) h, fun h => ?_⟩
    rw [removeT_yes (t := ⟨m, l⟩) h]
    simp only [hk]
  rw [hk] at CF
  obtain ⟨T, hT⟩ : ∃ T, removeT ⟨m, l⟩ id = T := ⟨_, rfl⟩
  rw [hT]
  simp only [hT] at HL
  obtain ⟨n, hnn⟩ : ∃ n, l.length = n := ⟨_, rfl⟩
  have HN := hid hnn
  have HRd := hid hO.rd
  rw [hnn] at CF HP hn HRd HKL
  have HC := hid (show n ≤ c by obtain ⟨b, o, c', e, _, h3, _⟩ := HRd.out.at_; cases e; exact h3)
  have hnc : n ≤ c := HC.out
  obtain ⟨⟨x0, x1⟩, x2, x3⟩ := u_box2f HP.out
  clear hP hO hz hk hT hnn hB
  cases hI : isR l id with
  | false =>
    have HE := hid (HL.out.1 hI)
    rw [hI] at CF
    clear hI
    go_enter Try.func51, Try.ntmps51
    go_wp2_with fail
    refine CF.out.mono ?_
    rintro e w1 ⟨rfl, hb1⟩
    have HB1 := hid hb1
    clear hb1 CF
    go_wp2_with fail
    go_ret
    refine ⟨g, c, by rw [HE.out]; rfl, ?_, ?_, u_KeepB.of_below _ HB1.out⟩
    · rw [HE.out]
      simp only [HN.out]
      exact u_blk_below HP.out HB1.out
    · rw [HE.out]
      exact HO.out.below HB1.out
  | true =>
    have HE := hid (HL.out.2 hI)
    have hkn : k < n := HKL.out hI
    have hkI : (k : Int) < (n : Int) := by omega
    have hncI : (n : Int) ≤ (c : Int) := by omega
    rw [hI] at CF
    clear hI HL
    go_enter Try.func51, Try.ntmps51
    go_wp2_with fail
    refine CF.out.mono ?_
    rintro e w1 ⟨rfl, hb1⟩
    have HB1 := hid hb1
    have HP1 := hid (u_blk_below HP.out hb1)
    clear hb1 CF x0 x1 x2 x3
    obtain ⟨⟨x0, x1⟩, x2, x3⟩ := u_box2f HP1.out
    have HRd' := hid (HRd.out.below HB1.out)
    obtain ⟨k1, hk1⟩ : ∃ k1, k + 1 = k1 := ⟨_, rfl⟩
    have HK1 := hid hk1
    have hk1n : k1 ≤ n := by omega
    have hk1I : (k : Int) + 1 = (k1 : Int) := by omega
    have hk1W : IntKind.i64.wrap (k1 : Int) = (k1 : Int) := IntWalk.i64_in _ (by omega)
    have HRF := hid (HRd'.out.from (k := k1) hk1n)
    have HRU := hid (HRd'.out.upto (Nat.le_of_lt hkn))
    rw [roC_drop] at HRF
    rw [roC_take] at HRU
    have hfr := sl_fromR g 0 n c k1 hk1n hnc
    have hup := sl_uptoR g 0 n c k (Nat.le_of_lt hkn) hnc
    clear hk1
    simp only [Nat.zero_add] at hfr HRF
    obtain ⟨i0, hi0, hz0, hz1, hz2⟩ := info_parts infoRoW
    have HI := hid (And.intro hi0 (And.intro hz0 (And.intro hz1 hz2)))
    clear hi0 hz0 hz1 hz2
    generalize (if c = k1 then (⟨g, 0, none⟩ : Addr) else ⟨g, k1 * 2, none⟩) = A1 at *
    go_wp2_with fail
    have HBc := hid ((Below.refl w1.heap.size w1).drew)
    have HB0 := hid ((Below.refl w1.heap.size w1).alloc (Nat.le_refl _) (.cells #[] 41))
    obtain ⟨⟨p0, p1⟩, p2, p3⟩ := u_box2f (u_blk_below HP1.out HB0.out)
    go_region_law (first
      | (refine u_step_own rfl (.tmp 17) (.tmp 23) _ rfl 41 i0 _ 2 24 Try.underlying24 HI.out.1 HI.out.2.1 HI.out.2.2.1 HI.out.2.2.2 rfl (by decide) w1.heap.size w1.heap.size 0 0 k [] (roC (l.take k)) (.slice (some ⟨g, 0, none⟩) k c) (by simp [Act.eval, Act.put]) (by simp [Act.eval, Act.put]) (u_own_new w1.drew _ _) (HRU.out.below (HBc.out.alloc HBc.out.size _)) (roC_one _) (by omega) (by omega) (HBc.out.alloc HBc.out.size _).size k (by omega) (roC (l.take k)) rfl ?_; intro g6 c6 w6 ho6 hb6 hg6; have HO6 := hid ho6; have HB6 := hid ((HBc.out.alloc HBc.out.size (.cells #[] 41)).trans hb6); obtain ⟨⟨r0, r1⟩, r2, r3⟩ := u_box2f (u_blk_below HP1.out HB6.out); clear ho6 hb6 hg6)
      | (refine u_step_own rfl (.tmp 24) (.tmp 31) _ rfl 41 i0 _ 2 24 Try.underlying24 HI.out.1 HI.out.2.1 HI.out.2.2.1 HI.out.2.2.2 rfl (by decide) w1.heap.size g6 c6 k (n - k1) (roC (l.take k)) (roC (l.drop k1)) (.slice (some A1) (n - k1) (c - k1)) (by simp [Act.eval, Act.put]) (by simp [Act.eval, Act.put]) HO6.out (HRF.out.below HB6.out) (roC_one _) (by omega) (by omega) HB6.out.size (n - 1) (by have := HK1.out; omega) (roC (l.take k ++ l.drop k1)) (by rw [roC_app]) ?_; intro g8 c8 w8 ho8 hb8 hg8; have HO8 := hid ho8; have HB8 := hid (HB6.out.trans hb8); obtain ⟨⟨s0, s1⟩, s2, s3⟩ := u_box2f (u_blk_below HP1.out HB8.out); clear ho8 hb8 hg8))
    all_goals
      have HP8 := hid (u_blk_below HP1.out HB8.out)
      have HGe := hid (show w1.heap.size ≤ g8 from (HO8.out.lt _ rfl).1)
      have hPl : P < w1.heap.size := lt_of_heap HP1.out
      have hne : (Value.slice (some ⟨g8, 0, none⟩) (n - 1) c8).ownBlock ≠ some P := fun e => by
        have h1 := HGe.out
        have h2 : g8 = P := Option.some.inj e
        omega
      have HLN := hid (show (l.take k ++ l.drop k1).length = n - 1 by rw [List.length_append, List.length_take, List.length_drop, HN.out]; have := HK1.out; omega)
      have HE2 := hid (show T = (⟨m, l.take k ++ l.drop k1⟩, true) by rw [← HK1.out]; exact HE.out)
      go_wp2_with fail
      go_ret
      refine ⟨g8, c8, by rw [HE2.out]; rfl, ?_, ?_, ?_⟩
      · rw [HE2.out]
        simp only [HLN.out]
        have := u_heap_set (i := 1) HP8.out (.slice (some ⟨g8, 0, none⟩) (n - 1) c8)
        simpa using this
      · rw [HE2.out]
        unfold RoOwn
        simp only [HLN.out]
        refine u_own_set (u_own_base HO8.out ?_) hne _ _
        have h1 := HB1.out.size
        have h3 := HBB.out
        omega
      · exact (u_KeepB.of_below _ HB1.out).trans ((u_KeepB.of_below _ HB8.out).trans (u_KeepB.of_set _ _ _ rfl))

theorem removedT_f {t : Tb} {id : ByteArray} (h : tableB t = false) : removedT t id = (zeroT, false) := if_neg (by rw [h]; exact Bool.false_ne_true)
theorem removedT_t {t : Tb} {id : ByteArray} (h : tableB t = true) : removedT t id = removeT t id := if_pos h

theorem removeT_most (t : Tb) (id : ByteArray) : (removeT t id).1.most = t.most := by
  unfold removeT
  split <;> rfl

set_option maxRecDepth 8000 in
set_option maxHeartbeats 8000000 in
theorem cRemovedS (t : Tb) (a : Option Addr) (cap : Nat) (id : ByteArray) (w : World) (hR : RoRow w a t.rows) (hz : RoSz 1048576 t.rows) (hn : t.rows.length ≤ 1048576) (hi : id.size ≤ 1048576) :
    Calls Try.prog 22 #[tbV t a cap, .string id] w fun e w' => ∃ a' c', e = .returned (.tuple #[tbV (removedT t id).1 a' c', .bool (removedT t id).2]) ∧ RoRow w' a' (removedT t id).1.rows ∧ Below w.heap.size w w' := by
  have CO := hid (fun wx (h : Below w.heap.size w wx) => cTableOkS t a cap wx (hR.below h) hz hn)
  have CC := hid (fun (h : tableB t = true) wx (hb : Below w.heap.size w wx) => cCopyS t a cap wx (hR.below hb) (Nat.le_trans (tableB_len h) (by decide)))
  have CE := hid (fun (h : tableB t = true) (P B g c : Nat) wx (hP : wx.heap[P]? = some (.cells #[.int .i64 t.most, .slice (some ⟨g, 0, none⟩) t.rows.length c] 26 (0, 0))) (hO : RoOwn wx B g c t.rows) (hB : B ≤ wx.heap.size) => cRemoveS P B g c t.most t.rows id wx hP hO (Nat.le_trans (tableB_len h) (by decide)) hz hi hB)
  obtain ⟨b1, b2⟩ := u_heap2 w (.cells #[.int .i64 t.most, .slice a t.rows.length cap] 26) (.cells #[.int .i64 0, .slice none 0 0] 26)
  have HB0 := hid (((Below.refl w.heap.size w).alloc (Nat.le_refl _) (.cells #[.int .i64 t.most, .slice a t.rows.length cap] 26)).alloc (by simp) (.cells #[.int .i64 0, .slice none 0 0] 26))
  have HEF := hid (fun h => removedT_f (t := t) (id := id) h)
  have HET := hid (fun h => removedT_t (t := t) (id := id) h)
  obtain ⟨R, hRR⟩ : ∃ R, removedT t id = R := ⟨_, rfl⟩
  rw [hRR]
  simp only [hRR] at HEF HET
  clear hRR hR hz hn hi
  have ht : (⟨t.most, t.rows⟩ : Tb) = t := rfl
  simp only [ht] at CE
  clear ht
  obtain ⟨E, hE⟩ : ∃ E, removeT t id = E := ⟨_, rfl⟩
  have HEM := hid (show E.1.most = t.most by rw [← hE]; exact removeT_most t id)
  simp only [hE] at CE HET
  clear hE
  unfold tbV at CO CC ⊢
  obtain ⟨n, hnn⟩ : ∃ n, t.rows.length = n := ⟨_, rfl⟩
  obtain ⟨m, hm⟩ : ∃ m, t.most = m := ⟨_, rfl⟩
  rw [hnn] at CO CC CE b1 b2 HB0 ⊢
  rw [hm] at CO CC CE b1 b2 HB0 HEM ⊢
  obtain ⟨W0, hW0⟩ : ∃ W0, ((w.alloc (.cells #[.int .i64 m, .slice a n cap] 26)).alloc (.cells #[.int .i64 0, .slice none 0 0] 26)) = W0 := ⟨_, rfl⟩
  rw [hW0] at b1 b2 HB0
  obtain ⟨B, hB⟩ : ∃ B, w.heap.size = B := ⟨_, rfl⟩
  rw [hB] at b1 b2
  have HM1 := hid b1
  have HM2 := hid b2
  clear b1 b2 hnn hm
  obtain ⟨⟨f0, f1⟩, f2, f3⟩ := u_box2f HM1.out
  cases hT : tableB t with
  | false =>
    have HE := hid (HEF.out hT)
    rw [hT] at CO
    clear HEF HET CC CE hT
    go_enter Try.func22, Try.ntmps22
    go_wp2_with fail
    refine (CO.out _ HB0.out).mono ?_
    rintro e w1 ⟨rfl, hb1⟩
    have HB1 := hid (bb HB0.out hb1)
    obtain ⟨⟨y0, y1⟩, y2, y3⟩ := u_box2f (u_blk_below HM2.out hb1)
    clear hb1 CO hW0 f0 f1 f2 f3
    go_wp2_with fail
    refine bodyPost_ret (v := .tuple #[.agg #[.int .i64 0, .slice none 0 0], .bool false]) (by simp [results, Try.results22, go_sem, y0, y1]) rfl ⟨none, 0, by rw [HE.out]; rfl, by rw [HE.out]; exact RoRow.nil _ _, ?_⟩
    iterate 2 refine Below.setCell ?_ (show w.heap.size ≤ B + 1 by omega) _
    exact HB1.out
  | true =>
    have CC2 := hid (CC.out hT)
    have CE2 := hid (CE.out hT)
    have HE := hid (HET.out hT)
    rw [hT] at CO
    clear CC CE hT HEF HET
    go_enter Try.func22, Try.ntmps22
    go_wp2_with fail
    refine (CO.out _ HB0.out).mono ?_
    rintro e w1 ⟨rfl, hb1⟩
    have HB2 := hid (bb HB0.out hb1)
    have HM12 := hid (u_blk_below HM1.out hb1)
    have HM22 := hid (u_blk_below HM2.out hb1)
    clear hb1 CO hW0 f0 f1 f2 f3
    obtain ⟨⟨f0, f1⟩, f2, f3⟩ := u_box2f HM12.out
    go_wp2_with fail
    refine (CC2.out _ HB2.out).mono ?_
    rintro e w4 ⟨g, c, rfl, ho4, hb4⟩
    have HX := hid ((Below.refl w4.heap.size w4).alloc (Nat.le_refl _) (.cells #[.int .i64 m, .slice (some ⟨g, 0, none⟩) n c] 26))
    have HN5 := hid (heap_alloc_new w4 (.cells #[.int .i64 m, .slice (some ⟨g, 0, none⟩) n c] 26))
    obtain ⟨w5, hw5⟩ : ∃ w5, w4.alloc (.cells #[.int .i64 m, .slice (some ⟨g, 0, none⟩) n c] 26) = w5 := ⟨_, rfl⟩
    rw [hw5] at HX HN5
    have HO5 := hid (ho4.below HX.out)
    have HM25 := hid (u_blk_below (u_blk_below HM22.out hb4) HX.out)
    have HB5 := hid (bb (bb HB2.out hb4) HX.out)
    have HBs := hid (show w1.heap.size ≤ w5.heap.size from Nat.le_trans hb4.size HX.out.size)
    obtain ⟨P, hPP⟩ : ∃ P, w4.heap.size = P := ⟨_, rfl⟩
    have HPge := hid (show B + 1 < P by rw [← hPP]; exact lt_of_heap (u_blk_below HM22.out hb4))
    rw [hPP] at HN5
    clear hb4 ho4 HM12 f0 f1 f2 f3 HX
    go_wp2_with fail
    refine (CE2.out P _ g c w5 HN5.out HO5.out HBs.out).mono ?_
    rintro e w6 ⟨g6, c6, rfl, hP6, ho6, hk6⟩
    have HM26 := hid ((hk6.block (B + 1) (lt_of_heap HM25.out) (fun e => by have := HPge.out; omega)).trans HM25.out)
    have HB6 := hid (hk6.below (B := B) (by rw [← hB]; exact HB5.out.size) (fun k e => by have := HPge.out; omega))
    have HB7 := hid (show Below w.heap.size w w6 from HB5.out.trans (hB ▸ HB6.out))
    have HP6 := hid hP6
    have HX6 := hid (show ∀ u v, RoRow ((w6.setCell ⟨B + 1, 0, none⟩ u).setCell ⟨B + 1, 1, none⟩ v) (some ⟨g6, 0, none⟩) E.1.rows from fun u v => by
      have hne : (Value.slice (some ⟨g6, 0, none⟩) E.1.rows.length c6).ownBlock ≠ some (B + 1) := fun e => by
        have h1 := (World.ownsRow.lt ho6 g6 rfl).1
        have h2 : g6 = B + 1 := Option.some.inj e
        have h3 := lt_of_heap HM22.out
        omega
      exact RoOwn.row (u_own_set (u_own_set ho6 hne _ _) hne _ _))
    clear hk6 ho6 hP6 hw5 hPP HB6
    obtain ⟨⟨y0, y1⟩, y2, y3⟩ := u_box2f HM26.out
    obtain ⟨⟨z0, z1⟩, z2, z3⟩ := u_box2f HP6.out
    rw [HEM.out] at z0
    generalize hrr : E.1.rows = rr at *
    have HRR := hid hrr
    generalize hn6 : rr.length = n6 at *
    have HN6 := hid hn6
    clear hrr hn6
    go_wp2_with fail
    refine bodyPost_ret (v := .tuple #[.agg #[.int .i64 m, .slice (some ⟨g6, 0, none⟩) n6 c6], .bool E.2]) (by simp [results, Try.results22, go_sem, y0, y1]) rfl ⟨some ⟨g6, 0, none⟩, c6, ?_, ?_, ?_⟩
    · rw [HE.out, HEM.out, HRR.out, HN6.out]
    · rw [HE.out, HRR.out]
      exact HX6.out _ _
    · iterate 2 refine Below.setCell ?_ (show w.heap.size ≤ B + 1 by omega) _
      exact HB7.out

end Go.Proofs.Ytmbomjmenbfhmaa
