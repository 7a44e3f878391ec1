/- Contract of the program's Removed. -/
import Derived.Test.YtmbomjmenbfhmaaUImE
namespace Go.Proofs.Ytmbomjmenbfhmaa
open Go.RowKit
set_option linter.unusedVariables false
set_option linter.unusedSimpArgs false

set_option maxRecDepth 8000 in
set_option maxHeartbeats 16000000 in
theorem cRemovedI (t : Tb) (a : Option Addr) (cap : Nat) (id : ByteArray) (w : World) (hR : RoRow w a t.rows) (hz : RoSz 1048576 t.rows) (hn : t.rows.length ≤ 1048576) :
    Calls Try.prog 13 #[tbV t a cap, .string id] w fun e w' => ∃ a' c', e = .returned (.tuple #[tbV (removedT t id).1 a' c', .bool (removedT t id).2]) ∧ OwnRo w' w.heap.size a' (removedT t id).1.rows ∧ Below w.heap.size w w' := by
  have CO := hid (fun wx (h : Below w.heap.size w wx) => cTableOkI t a cap wx (hR.below h) hz hn)
  have CA := hid (fun (h : tableB t = true) wx (hb : Below w.heap.size w wx) => cRowAt a cap t.rows id wx (hR.below hb) (tableB_p h).2.2 hn)
  have CC := hid (fun (h : tableB t = true) wx (hb : Below w.heap.size w wx) => cCopiedTable t a cap wx (hR.below hb) hz (Nat.le_trans (tableB_len h) (by decide)))
  have CL := hid (fun (h : tableB t = true) wx (hb : Below w.heap.size w wx) => cCopiedRows2 a cap t.rows wx (hR.below hb) hz (Nat.le_trans (tableB_len h) (by decide)))
  have HKI := hid (fun (h : isR t.rows id = true) => (isR_some h).1)
  have HLE := hid (fun (h : tableB t = true) => tableB_len h)
  have HB0 := hid (((Below.refl w.heap.size w).alloc (Nat.le_refl _) (.cells #[.int .i64 t.most, .slice a t.rows.length cap] 26)).alloc (by simp) (.cells #[.int .i64 0, .slice none 0 0] 26))
  obtain ⟨b1, b2⟩ := u_heap2 w (.cells #[.int .i64 t.most, .slice a t.rows.length cap] 26) (.cells #[.int .i64 0, .slice none 0 0] 26)
  have HEF := hid (fun h => removedT_f (t := t) (id := id) h)
  have HET := hid (fun h => removedT_t (t := t) (id := id) h)
  have HE1 := hid (fun h => removeT_no (t := t) (id := id) h)
  have HE2 := hid (fun h => removeT_yes (t := t) (id := id) h)
  obtain ⟨R, hRR⟩ : ∃ R, removedT t id = R := ⟨_, rfl⟩
  rw [hRR]
  simp only [hRR] at HEF HET
  clear hRR hR hz hn
  obtain ⟨k, hk⟩ : ∃ k, findR t.rows id = k := ⟨_, rfl⟩
  rw [hk] at CA HE2
  simp only [hk] at HKI
  clear hk
  obtain ⟨n, hnn⟩ : ∃ n, t.rows.length = n := ⟨_, rfl⟩
  have HN := hid hnn
  unfold tbV at CO CC ⊢
  rw [hnn] at CO CC CL CA b1 b2 HB0 HKI HLE ⊢
  obtain ⟨m, hm⟩ : ∃ m, t.most = m := ⟨_, rfl⟩
  have HM := hid hm
  rw [hm] at CO CC b1 b2 HB0 HE2 ⊢
  clear hnn hm
  obtain ⟨W0, hW0⟩ : ∃ W0, ((w.alloc (.cells #[.int .i64 m, .slice a n cap] 26)).alloc (.cells #[.int .i64 0, .slice none 0 0] 26)) = W0 := ⟨_, rfl⟩
  rw [hW0] at b1 b2 HB0
  obtain ⟨B, hB⟩ : ∃ B, w.heap.size = B := ⟨_, rfl⟩
  rw [hB] at b1 b2
  have HM1 := hid b1
  have HM2 := hid b2
  clear b1 b2
  obtain ⟨⟨f0, f1⟩, _⟩ := u_box2f HM1.out
  obtain ⟨⟨f2, f3⟩, f6, f7⟩ := u_box2f HM2.out
  cases hT : tableB t with
  | false =>
    have HE := hid (HEF.out hT)
    rw [hT] at CO
    clear HEF HET CC CA CL hT HE1 HE2 HLE
    go_enter Try.func13, Try.ntmps13
    go_wp2_with fail
    refine (CO.out _ HB0.out).mono ?_
    rintro e w1 ⟨rfl, hb1⟩
    have HB1 := hid (bb HB0.out hb1)
    have HM21 := hid (u_blk_below HM2.out hb1)
    clear hb1 CO hW0 f0 f1 f2 f3 f6 f7
    obtain ⟨⟨f2, f3⟩, f6, f7⟩ := u_box2f HM21.out
    go_wp2_with fail
    refine bodyPost_ret (v := .tuple #[.agg #[.int .i64 0, .slice none 0 0], .bool false]) (by simp [results, Try.results13, go_sem, f2, f3]) rfl ⟨none, 0, by rw [HE.out]; rfl, by rw [HE.out]; exact OwnRo.nil _ _ _, ?_⟩
    iterate 2 refine Below.setCell ?_ (show w.heap.size ≤ B + 1 by omega) _
    exact HB1.out
  | true =>
    have CA2 := hid (CA.out hT)
    have CC2 := hid (CC.out hT)
    have CL2 := hid (CL.out hT)
    have hn20 : n ≤ 20 := HLE.out hT
    have HE := hid (HET.out hT)
    rw [hT] at CO
    clear CA CC CL HLE hT HEF HET
    cases hI : isR t.rows id with
    | false =>
      have HEE := hid (show R = (t, false) from HE.out.trans (HE1.out hI))
      rw [hI] at CA2
      clear HE1 HE2 HE hI CL2
      go_enter Try.func13, Try.ntmps13
      go_wp2_with fail
      refine (CO.out _ HB0.out).mono ?_
      rintro e w1 ⟨rfl, hb1⟩
      have HB1 := hid (bb HB0.out hb1)
      have HM11 := hid (u_blk_below HM1.out hb1)
      have HM21 := hid (u_blk_below HM2.out hb1)
      clear hb1 CO hW0 f0 f1 f2 f3 f6 f7
      obtain ⟨⟨f0, f1⟩, _⟩ := u_box2f HM11.out
      go_wp2_with fail
      refine (CA2.out _ HB1.out).mono ?_
      rintro e w3 ⟨rfl, hb3⟩
      have HB3 := hid (bb HB1.out hb3)
      have HM13 := hid (u_blk_below HM11.out hb3)
      have HM23 := hid (u_blk_below HM21.out hb3)
      clear hb3 CA2 f0 f1
      obtain ⟨⟨f0, f1⟩, _⟩ := u_box2f HM13.out
      go_wp2_with fail
      refine (CC2.out _ HB3.out).mono ?_
      rintro e w4 ⟨a4, c4, rfl, ho4, hb4⟩
      have HB4 := hid (bb HB3.out hb4)
      have HM24 := hid (u_blk_below HM23.out hb4)
      have HO4 := hid ho4
      have HD := hid (show B + 1 < w3.heap.size from lt_of_heap HM23.out)
      clear hb4 ho4 CC2 f0 f1
      obtain ⟨⟨f2, f3⟩, f6, f7⟩ := u_box2f HM24.out
      go_wp2_with fail
      refine bodyPost_ret (v := .tuple #[.agg #[.int .i64 m, .slice a4 n c4], .bool false]) (by simp [results, Try.results13, go_sem, f2, f3]) rfl ⟨a4, c4, ?_, ?_, ?_⟩
      · rw [HEE.out, HM.out, HN.out]
      · rw [HEE.out]
        obtain ⟨a5, c5, e5, ho5⟩ := own_ro (u_own_keep (u_own_keep HO4.out HD.out 0 (.int .i64 m)) HD.out 1 (.slice a4 n c4)) HN.out
        cases e5
        exact ho5.mono (by have := HB3.out.size; omega)
      · iterate 2 refine Below.setCell ?_ (show w.heap.size ≤ B + 1 by omega) _
        exact HB4.out
    | true =>
      have HEE := hid (show R = (⟨m, t.rows.take k ++ t.rows.drop (k + 1)⟩, true) from HE.out.trans (HE2.out hI))
      have hkn : k < n := HKI.out hI
      rw [hI] at CA2
      clear HE1 HE2 HE hI CC2 HKI
      have HN1 := hid (show (t.rows.take k ++ t.rows.drop (k + 1)).length = n - 1 by rw [List.length_append, List.length_take, List.length_drop, HN.out]; omega)
      obtain ⟨k1, hk1⟩ : ∃ k1, k + 1 = k1 := ⟨_, rfl⟩
      have e1 : (k : Int) + 1 = (k1 : Int) := by omega
      have e3 : IntKind.i64.wrap (k1 : Int) = (k1 : Int) := IntWalk.i64_in _ (by omega)
      have CI := hid (fun (Bb c : Nat) (a' : Option Addr) (wx : World) (hO : wx.ownsRow Bb 41 2 (.slice a' n c) n (roC t.rows)) => (show Calls Try.prog 41 #[.slice a' n c, .int .i64 (k : Int), .int .i64 (k1 : Int)] wx fun e w' => ∃ a8 c8, e = .returned (.slice a8 (n - 1) c8) ∧ w'.ownsRow Bb 41 2 (.slice a8 (n - 1) c8) (n - 1) (roC (t.rows.take k ++ t.rows.drop (k + 1))) ∧ Below Bb wx w' by
        rw [← e1]
        refine (cDelete Bb c n k a' t.rows wx hO HN.out (by omega) hkn).mono ?_
        rintro e w' ⟨v, rfl, ho, hb⟩
        obtain ⟨a8, c8, rfl⟩ := u_own_len ho
        exact ⟨a8, c8, rfl, ho, hb⟩))
      clear hk1
      go_enter Try.func13, Try.ntmps13
      go_wp2_with fail
      refine (CO.out _ HB0.out).mono ?_
      rintro e w1 ⟨rfl, hb1⟩
      have HB1 := hid (bb HB0.out hb1)
      have HM11 := hid (u_blk_below HM1.out hb1)
      have HM21 := hid (u_blk_below HM2.out hb1)
      clear hb1 CO hW0 f0 f1 f2 f3 f6 f7
      obtain ⟨⟨f0, f1⟩, _⟩ := u_box2f HM11.out
      go_wp2_with fail
      refine (CA2.out _ HB1.out).mono ?_
      rintro e w3 ⟨rfl, hb3⟩
      have HB3 := hid (bb HB1.out hb3)
      have HM13 := hid (u_blk_below HM11.out hb3)
      have HM23 := hid (u_blk_below HM21.out hb3)
      clear hb3 CA2 f0 f1 HM HN
      obtain ⟨⟨f0, f1⟩, _⟩ := u_box2f HM13.out
      go_wp2_with fail
      have HBc := hid ((Below.refl w3.heap.size w3).drew)
      have HXX := hid (fun W' (h : Below w3.heap.size w3 W') => And.intro (u_box2f (u_blk_below HM13.out h)).1 (u_box2f (u_blk_below HM23.out h)))
      go_region_law (first
        | (go_simp; go_at_call 38; refine (CL2.out _ (bb HB3.out HBc.out)).mono ?_; rintro e w6 ⟨a6, c6, rfl, ho6, hb6⟩; have HO6 := hid ho6; have HB6 := hid (bb HBc.out hb6); obtain ⟨⟨r0, r1⟩, ⟨r2, r3⟩, r6, r7⟩ := HXX.out _ HB6.out; clear ho6 hb6)
        | (go_simp; go_at_call 41; refine (CI.out _ c6 a6 _ HO6.out).mono ?_; rintro e w8 ⟨a8, c8, rfl, ho8, hb8⟩; have HB8 := hid (HB6.out.trans (hb8.mono HBc.out.size)); have HO8 := hid (u_own_base ho8 HBc.out.size); obtain ⟨⟨t0, t1⟩, ⟨t2, t3⟩, t6, t7⟩ := HXX.out _ HB8.out; clear ho8 hb8))
      all_goals
        clear CI CL2 HXX HBc
        have HD := hid (show B + 1 < w3.heap.size from lt_of_heap HM23.out)
        have HO9 := hid (fun (u v : Value) => own_ro (u_own_keep (u_own_keep HO8.out HD.out 0 u) HD.out 1 v) HN1.out)
        have HW := hid (bb HB3.out HB8.out)
        have hBw : w.heap.size ≤ w3.heap.size := HB3.out.size
        clear HO8 HB8
        go_wp2_with fail
        refine bodyPost_ret (v := .tuple #[.agg #[.int .i64 m, .slice a8 (n - 1) c8], .bool true]) (by simp [results, Try.results13, go_sem, t2, t3]) rfl ⟨a8, c8, ?_, ?_, ?_⟩
        · rw [HEE.out]
          simp only [HN1.out]
        · rw [HEE.out]
          obtain ⟨a5, c5, e5, ho5⟩ := HO9.out (.int .i64 m) (.slice a8 (n - 1) c8)
          cases e5
          exact ho5.mono hBw
        · iterate 2 refine Below.setCell ?_ (show w.heap.size ≤ B + 1 by omega) _
          exact HW.out

end Go.Proofs.Ytmbomjmenbfhmaa
