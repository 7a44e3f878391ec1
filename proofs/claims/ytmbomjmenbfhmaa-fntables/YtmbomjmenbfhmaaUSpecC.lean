/- Contracts of the specification's Entered, l16Remove, Removed. -/
import Derived.Test.YtmbomjmenbfhmaaUSpecB
namespace Go.Proofs.Ytmbomjmenbfhmaa
open Go.RowKit
set_option linter.unusedVariables false
set_option linter.unusedSimpArgs false

theorem enteredT_f {t : Tb} {id : ByteArray} {til : Int} (h : (tableB t && u_idOk id && utmB til) = false) : enteredT t id til = (zeroT, 3) := if_neg (by rw [h]; exact Bool.false_ne_true)
theorem enteredT_t {t : Tb} {id : ByteArray} {til : Int} (h : (tableB t && u_idOk id && utmB til) = true) : enteredT t id til = enterT t id til := if_pos h

theorem enterT_most (t : Tb) (id : ByteArray) (til : Int) : (enterT t id til).1.most = t.most := by
  unfold enterT
  split
  · rfl
  · split <;> rfl

set_option maxRecDepth 8000 in
set_option maxHeartbeats 8000000 in
theorem cEnteredS (t : Tb) (a : Option Addr) (cap : Nat) (id : ByteArray) (til : Int) (w : World) (hR : RoRow w a t.rows) (hz : RoSz 1048576 t.rows) (hn : t.rows.length ≤ 1048576) (hi : id.size ≤ 1048576) :
    Calls Try.prog 16 #[tbV t a cap, .string id, .int .i64 til] w fun e w' => ∃ a' c', e = .returned (.tuple #[tbV (enteredT t id til).1 a' c', .int .i64 (enteredT t id til).2]) ∧ RoRow w' a' (enteredT t id til).1.rows ∧ Below w.heap.size w w' := by
  have CO := hid (fun wx (h : Below w.heap.size w wx) => cTableOkS t a cap wx (hR.below h) hz hn)
  have CI := hid (fun wx => u_c_spec_l12Id id wx hi)
  have CT := hid (fun wx => cTimeS til wx)
  have hM : decide (0 ≤ til ∧ til ≤ 3155759999) = utmB til := rfl
  rw [hM] at CT
  clear hM
  have CC := hid (fun (h : tableB t = true) wx (hb : Below w.heap.size w wx) => cCopyS t a cap wx (hR.below hb) (Nat.le_trans (tableB_len h) (by decide)))
  have CE := hid (fun (h : tableB t = true) (P B g c : Nat) wx (hP : wx.heap[P]? = some (.cells #[.int .i64 t.most, .slice (some ⟨g, 0, none⟩) t.rows.length c] 26 (0, 0))) (hO : RoOwn wx B g c t.rows) (hB : B ≤ wx.heap.size) => cEnterS P B g c t.most t.rows id til wx hP hO (Nat.le_trans (tableB_len h) (by decide)) hz hi hB)
  obtain ⟨b1, b2⟩ := u_heap2 w (.cells #[.int .i64 t.most, .slice a t.rows.length cap] 26) (.cells #[.int .i64 0, .slice none 0 0] 26)
  have HB0 := hid (((Below.refl w.heap.size w).alloc (Nat.le_refl _) (.cells #[.int .i64 t.most, .slice a t.rows.length cap] 26)).alloc (by simp) (.cells #[.int .i64 0, .slice none 0 0] 26))
  have HEF := hid (fun h => enteredT_f (t := t) (id := id) (til := til) h)
  have HET := hid (fun h => enteredT_t (t := t) (id := id) (til := til) h)
  obtain ⟨R, hRR⟩ : ∃ R, enteredT t id til = R := ⟨_, rfl⟩
  rw [hRR]
  simp only [hRR] at HEF HET
  clear hRR hR hz hn hi
  have ht : (⟨t.most, t.rows⟩ : Tb) = t := rfl
  simp only [ht] at CE
  clear ht
  obtain ⟨E, hE⟩ : ∃ E, enterT t id til = E := ⟨_, rfl⟩
  have HEM := hid (show E.1.most = t.most by rw [← hE]; exact enterT_most t id til)
  simp only [hE] at CE HET
  clear hE
  unfold tbV at CO CC ⊢
  have HTE := hid (fun n (h : t.rows.length = n) => h)
  obtain ⟨n, hnn⟩ : ∃ n, t.rows.length = n := ⟨_, rfl⟩
  obtain ⟨m, hm⟩ : ∃ m, t.most = m := ⟨_, rfl⟩
  rw [hnn] at CO CC CE b1 b2 HB0 ⊢
  rw [hm] at CO CC CE b1 b2 HB0 HEM ⊢
  obtain ⟨W0, hW0⟩ : ∃ W0, ((w.alloc (.cells #[.int .i64 m, .slice a n cap] 26)).alloc (.cells #[.int .i64 0, .slice none 0 0] 26)) = W0 := ⟨_, rfl⟩
  rw [hW0] at b1 b2 HB0
  obtain ⟨B, hB⟩ : ∃ B, w.heap.size = B := ⟨_, rfl⟩
  rw [hB] at b1 b2
  have HM1 := hid b1
  have HM2 := hid b2
  clear b1 b2 hnn hm HTE
  obtain ⟨⟨f0, f1⟩, f2, f3⟩ := u_box2f HM1.out
  cases hT : tableB t with
  | false =>
    have HE := hid (HEF.out (by rw [hT]; rfl))
    rw [hT] at CO
    clear HEF HET CC CE CI CT hT
    go_enter Try.func16, Try.ntmps16
    go_wp2_with fail
    refine (CO.out _ HB0.out).mono ?_
    rintro e w1 ⟨rfl, hb1⟩
    have HB1 := hid (bb HB0.out hb1)
    obtain ⟨⟨y0, y1⟩, y2, y3⟩ := u_box2f (u_blk_below HM2.out hb1)
    clear hb1 CO hW0 f0 f1 f2 f3
    go_wp2_with fail
    refine bodyPost_ret (v := .tuple #[.agg #[.int .i64 0, .slice none 0 0], .int .i64 3]) (by simp [results, Try.results16, go_sem, y0, y1]) rfl ⟨none, 0, by rw [HE.out]; rfl, by rw [HE.out]; exact RoRow.nil _ _, ?_⟩
    iterate 2 refine Below.setCell ?_ (show w.heap.size ≤ B + 1 by omega) _
    exact HB1.out
  | true =>
    have CC2 := hid (CC.out hT)
    have CE2 := hid (CE.out hT)
    rw [hT] at CO
    rw [hT] at HEF HET
    clear CC CE hT
    cases hI : u_idOk id with
    | false =>
      have HE := hid (HEF.out (by rw [hI]; rfl))
      rw [hI] at CI
      clear HEF HET CC2 CE2 CT hI
      go_enter Try.func16, Try.ntmps16
      go_wp2_with fail
      refine (CO.out _ HB0.out).mono ?_
      rintro e w1 ⟨rfl, hb1⟩
      have HB1 := hid (bb HB0.out hb1)
      have HM21 := hid (u_blk_below HM2.out hb1)
      clear hb1 CO hW0 f0 f1 f2 f3
      go_wp2_with fail
      refine (CI.out _).mono ?_
      rintro e w2 ⟨rfl, hb2⟩
      have HB2 := hid (bb HB1.out hb2)
      obtain ⟨⟨y0, y1⟩, y2, y3⟩ := u_box2f (u_blk_below HM21.out hb2)
      clear hb2 CI
      go_wp2_with fail
      refine bodyPost_ret (v := .tuple #[.agg #[.int .i64 0, .slice none 0 0], .int .i64 3]) (by simp [results, Try.results16, go_sem, y0, y1]) rfl ⟨none, 0, by rw [HE.out]; rfl, by rw [HE.out]; exact RoRow.nil _ _, ?_⟩
      iterate 2 refine Below.setCell ?_ (show w.heap.size ≤ B + 1 by omega) _
      exact HB2.out
    | true =>
      rw [hI] at CI HEF HET
      clear hI
      cases hQ : utmB til with
      | false =>
        have HE := hid (HEF.out (by rw [hQ]; rfl))
        rw [hQ] at CT
        clear HEF HET CC2 CE2 hQ
        go_enter Try.func16, Try.ntmps16
        go_wp2_with fail
        refine (CO.out _ HB0.out).mono ?_
        rintro e w1 ⟨rfl, hb1⟩
        have HB1 := hid (bb HB0.out hb1)
        have HM21 := hid (u_blk_below HM2.out hb1)
        clear hb1 CO hW0 f0 f1 f2 f3
        go_wp2_with fail
        refine (CI.out _).mono ?_
        rintro e w2 ⟨rfl, hb2⟩
        have HB2 := hid (bb HB1.out hb2)
        obtain ⟨⟨y0, y1⟩, y2, y3⟩ := u_box2f (u_blk_below HM21.out hb2)
        clear hb2 CI
        go_wp2_with fail
        refine (CT.out _).mono ?_
        rintro e w3 ⟨rfl, rfl⟩
        go_wp2_with fail
        refine bodyPost_ret (v := .tuple #[.agg #[.int .i64 0, .slice none 0 0], .int .i64 3]) (by simp [results, Try.results16, go_sem, y0, y1]) rfl ⟨none, 0, by rw [HE.out]; rfl, by rw [HE.out]; exact RoRow.nil _ _, ?_⟩
        iterate 2 refine Below.setCell ?_ (show w.heap.size ≤ B + 1 by omega) _
        exact HB2.out
      | true =>
        have HE := hid (HET.out (by rw [hQ]; rfl))
        rw [hQ] at CT
        clear HEF HET hQ
        go_enter Try.func16, Try.ntmps16
        go_wp2_with fail
        refine (CO.out _ HB0.out).mono ?_
        rintro e w1 ⟨rfl, hb1⟩
        have HB1 := hid (bb HB0.out hb1)
        have HM11 := hid (u_blk_below HM1.out hb1)
        have HM21 := hid (u_blk_below HM2.out hb1)
        clear hb1 CO hW0 f0 f1 f2 f3
        go_wp2_with fail
        refine (CI.out _).mono ?_
        rintro e w2 ⟨rfl, hb2⟩
        have HB2 := hid (bb HB1.out hb2)
        have HM12 := hid (u_blk_below HM11.out hb2)
        have HM22 := hid (u_blk_below HM21.out hb2)
        clear hb2 CI HM11 HM21 HB1
        obtain ⟨⟨f0, f1⟩, f2, f3⟩ := u_box2f HM12.out
        go_wp2_with fail
        refine (CT.out _).mono ?_
        rintro e w3 ⟨rfl, rfl⟩
        go_wp2_with fail
        refine (CC2.out _ HB2.out).mono ?_
        rintro e w4 ⟨g, c, rfl, ho4, hb4⟩
        have HX := hid ((Below.refl w4.heap.size w4).alloc (Nat.le_refl _) (.cells #[.int .i64 m, .slice (some ⟨g, 0, none⟩) n c] 26))
        have HN5 := hid (heap_alloc_new w4 (.cells #[.int .i64 m, .slice (some ⟨g, 0, none⟩) n c] 26))
        obtain ⟨w5, hw5⟩ : ∃ w5, w4.alloc (.cells #[.int .i64 m, .slice (some ⟨g, 0, none⟩) n c] 26) = w5 := ⟨_, rfl⟩
        rw [hw5] at HX HN5
        have HO5 := hid (ho4.below HX.out)
        have HM25 := hid (u_blk_below (u_blk_below HM22.out hb4) HX.out)
        have HB5 := hid (bb (bb HB2.out hb4) HX.out)
        have HBs := hid (show w3.heap.size ≤ w5.heap.size from Nat.le_trans hb4.size HX.out.size)
        obtain ⟨P, hPP⟩ : ∃ P, w4.heap.size = P := ⟨_, rfl⟩
        have HPge := hid (show B + 1 < P by rw [← hPP]; exact lt_of_heap (u_blk_below HM22.out hb4))
        rw [hPP] at HN5
        clear hb4 ho4 HM12 f0 f1 f2 f3 HX
        go_wp2_with fail
        refine (CE2.out P _ g c w5 HN5.out HO5.out HBs.out).mono ?_
        rintro e w6 ⟨g6, c6, rfl, hP6, ho6, hk6⟩
        have HM26 := hid ((hk6.block (B + 1) (lt_of_heap HM25.out) (fun e => by have := HPge.out; omega)).trans HM25.out)
        have HB6 := hid (hk6.below (B := B) (by rw [← hB]; exact HB5.out.size) (fun k e => by have := HPge.out; omega))
        have HB7 := hid (show Below w.heap.size w w6 from HB5.out.trans (hB ▸ HB6.out))
        have HP6 := hid hP6
        have HX6 := hid (show ∀ u v, RoRow ((w6.setCell ⟨B + 1, 0, none⟩ u).setCell ⟨B + 1, 1, none⟩ v) (some ⟨g6, 0, none⟩) E.1.rows from fun u v => by
          have hne : (Value.slice (some ⟨g6, 0, none⟩) E.1.rows.length c6).ownBlock ≠ some (B + 1) := fun e => by
            have h1 := (World.ownsRow.lt ho6 g6 rfl).1
            have h2 : g6 = B + 1 := Option.some.inj e
            have h3 := lt_of_heap HM22.out
            omega
          exact RoOwn.row (u_own_set (u_own_set ho6 hne _ _) hne _ _))
        clear hk6 ho6 hP6 hw5 hPP HB6
        obtain ⟨⟨y0, y1⟩, y2, y3⟩ := u_box2f HM26.out
        obtain ⟨⟨z0, z1⟩, z2, z3⟩ := u_box2f HP6.out
        rw [HEM.out] at z0
        have HEM' := HEM.out
        generalize hrr : E.1.rows = rr at *
        have HRR := hid hrr
        generalize hn6 : rr.length = n6 at *
        have HN6 := hid hn6
        clear hrr hn6 HEM'
        go_wp2_with fail
        refine bodyPost_ret (v := .tuple #[.agg #[.int .i64 m, .slice (some ⟨g6, 0, none⟩) n6 c6], .int .i64 E.2]) (by simp [results, Try.results16, go_sem, y0, y1]) rfl ⟨some ⟨g6, 0, none⟩, c6, ?_, ?_, ?_⟩
        · rw [HE.out, HEM.out, HRR.out, HN6.out]
        · rw [HE.out, HRR.out]
          exact HX6.out _ _
        · iterate 2 refine Below.setCell ?_ (show w.heap.size ≤ B + 1 by omega) _
          exact HB7.out

end Go.Proofs.Ytmbomjmenbfhmaa
