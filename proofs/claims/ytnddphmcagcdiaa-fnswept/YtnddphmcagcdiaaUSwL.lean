/- The law on what is swept: whatever is drawn, it answers true. -/
import Derived.Test.YtnddphmcagcdiaaUHasS
import Derived.Deep.RegionHeld3
namespace Go.Proofs.Ytnddphmcagcdiaa
open Go.RowKit
set_option linter.unusedVariables false
set_option linter.unusedSimpArgs false

set_option maxRecDepth 16000 in
set_option maxHeartbeats 32000000 in
theorem law_swept (a : Option Addr) (len cap : Nat) (w : World) (hcb : CodeB w a len) :
    Calls Try.prog 3 #[.slice a len cap] w fun e w' => e = .returned (.bool true) ∧ Below w.heap.size w w' := by
  have HCB := hid hcb
  have HCR := hid hcb.row
  clear hcb
  by_cases hbig : len ≤ 4096
  case neg =>
    go_enter Try.func3, Try.ntmps3
    go_wp2_with fail
    refine (cBig_yes a len cap _ hbig).mono ?_
    rintro e0 w' ⟨rfl, rfl⟩
    go_wp2_with fail
    go_ret
    exact ⟨rfl, Below.refl _ _⟩
  go_enter Try.func3, Try.ntmps3
  go_wp2_with fail
  refine (cBig_no a len cap _ hbig).mono ?_
  rintro e0 w' ⟨rfl, rfl⟩
  go_wp2_with fail
  refine (cDrawSwept a len cap _ hbig HCR.out).mono ?_
  rintro e w1 ⟨t, a3, c3, now, rfl, hro, hl, hz, hb1⟩
  have SM3 := hid (sm_of hl hz)
  have HL := hid hl
  have HA := hid ((Below.refl w1.heap.size w1).alloc (Nat.le_refl _) (.cells #[.int .i64 t.most, .slice a3 t.rows.length c3] 26))
  have HB := hid (bb hb1 HA.out)
  have H3 := hid (Has.new t a3 c3 hro)
  unfold tbV
  clear hro hl hz hb1 HA
  obtain ⟨W, hW⟩ : ∃ W, w1.alloc (.cells #[.int .i64 t.most, .slice a3 t.rows.length c3] 26) = W := ⟨_, rfl⟩
  obtain ⟨B3, hB⟩ : ∃ B, w1.heap.size = B := ⟨_, rfl⟩
  rw [hW] at HB H3
  rw [hB] at H3
  obtain ⟨y0, y1⟩ := And.intro H3.out.1.c0 H3.out.1.c1
  have HLAW := hid (fun h => swept_law (t := t) (now := now) h)
  have HNO := hid (fun h => sweptT_f (t := t) (now := now) h)
  have SM5 := hid (sm_swept (now := now) SM3.out)
  obtain ⟨x, hx⟩ : ∃ x, sweptT t now = x := ⟨_, rfl⟩
  have HX := hid hx
  simp only [hx] at HLAW HNO SM5
  clear hx
  go_wp2_with fail
  clear hW hB y0 y1
  refine (hSwI now x HX.out H3.out SM3.out).mono ?_
  rintro e w2 ⟨a5, c5, rfl, hro, hb2⟩
  have HA := hid ((Below.refl w2.heap.size w2).alloc (Nat.le_refl _) (.cells #[.int .i64 x.most, .slice a5 x.rows.length c5] 26))
  have H5 := hid (Has.new x a5 c5 hro)
  replace H3 := hid (H3.out.below (bb hb2 HA.out))
  replace HB := hid (bb HB.out (bb hb2 HA.out))
  clear hro hb2 HA
  obtain ⟨W, hW⟩ : ∃ W, w2.alloc (.cells #[.int .i64 x.most, .slice a5 x.rows.length c5] 26) = W := ⟨_, rfl⟩
  obtain ⟨B5, hB⟩ : ∃ B, w2.heap.size = B := ⟨_, rfl⟩
  rw [hW] at HB H3 H5
  rw [hB] at H5
  go_upto_region 5 with fail
  clear hW hB
  have HBc := hid ((Below.refl W.heap.size W).drew)
  have HSX := hid (show ∀ W', Below W.heap.size W W' → W'.cell? ⟨B3, 0, none⟩ = some (.int .i64 t.most) ∧ W'.cell? ⟨B3, 1, none⟩ = some (.slice a3 t.rows.length c3) ∧ W'.cell? ⟨B5, 0, none⟩ = some (.int .i64 x.most) ∧ W'.cell? ⟨B5, 1, none⟩ = some (.slice a5 x.rows.length c5) from fun W' hb => ⟨(H3.out.below hb).1.c0, (H3.out.below hb).1.c1, (H5.out.below hb).1.c0, (H5.out.below hb).1.c1⟩)
  go_region_held3 (fun w' => w'.cell? ⟨B3, 0, none⟩ = some (.int .i64 t.most) ∧ w'.cell? ⟨B3, 1, none⟩ = some (.slice a3 t.rows.length c3) ∧ w'.cell? ⟨B5, 0, none⟩ = some (.int .i64 x.most) ∧ w'.cell? ⟨B5, 1, none⟩ = some (.slice a5 x.rows.length c5)) (exact HSX.out _ HBc.out)
    (first
      | (go_at_call 9; refine (hSwS now x HX.out (H3.out.below HBc.out) SM3.out).mono ?_; rintro e w9 ⟨a9, c9, rfl, hro9, hb9⟩; have HR9 := hid hro9; replace HBc := hid (bb HBc.out hb9); clear hb9 hro9)
      | (go_at_call 8; refine (lLike (H5.out.below HBc.out).2 HR9.out SM5.out).mono ?_; rintro e w10 ⟨rfl, hb9⟩; replace HBc := hid (bb HBc.out hb9); clear hb9))
  replace H3 := hid (H3.out.below HBc.out)
  replace H5 := hid (H5.out.below HBc.out)
  replace HB := hid (bb HB.out HBc.out)
  clear HSX HBc HR9
  obtain ⟨y0, y1⟩ := And.intro H3.out.1.c0 H3.out.1.c1
  go_wp2_with fail
  clear y0 y1
  refine (hOkS H3.out SM3.out).mono ?_
  rintro e w11 ⟨rfl, hb⟩
  replace H3 := hid (H3.out.below hb)
  replace H5 := hid (H5.out.below hb)
  replace HB := hid (bb HB.out hb)
  clear hb
  cases hT : tableB t with
  | false =>
    have HZ := hid (HNO.out (by rw [hT]; rfl))
    clear hT HLAW HNO
    obtain ⟨y0, y1⟩ := And.intro H5.out.1.c0 H5.out.1.c1
    go_wp2_with fail
    refine (hLikeZ HZ.out H5.out).mono ?_
    rintro e w12 ⟨rfl, hb⟩
    replace HB := hid (bb HB.out hb)
    clear hb y0 y1
    go_wp2_with fail
    go_ret
    exact ⟨rfl, HB.out⟩
  | true =>
    by_cases hn0 : now < 0
    case pos =>
      have HZ := hid (HNO.out (by rw [hT]; simp [utmB]; omega))
      clear hT HLAW HNO
      obtain ⟨y0, y1⟩ := And.intro H5.out.1.c0 H5.out.1.c1
      go_wp2_with fail
      refine (hLikeZ HZ.out H5.out).mono ?_
      rintro e w12 ⟨rfl, hb⟩
      replace HB := hid (bb HB.out hb)
      clear hb y0 y1
      go_wp2_with fail
      go_ret
      exact ⟨rfl, HB.out⟩
    by_cases hn1 : 3155759999 < now
    case pos =>
      have HZ := hid (HNO.out (by rw [hT]; simp [utmB]; omega))
      clear hT HLAW HNO
      obtain ⟨y0, y1⟩ := And.intro H5.out.1.c0 H5.out.1.c1
      go_wp2_with fail
      refine (hLikeZ HZ.out H5.out).mono ?_
      rintro e w12 ⟨rfl, hb⟩
      replace HB := hid (bb HB.out hb)
      clear hb y0 y1
      go_wp2_with fail
      go_ret
      exact ⟨rfl, HB.out⟩
    have hU : (tableB t && utmB now) = true := by rw [hT]; simp [utmB]; omega
    obtain ⟨hr, hok, hh, hla⟩ := HLAW.out hU
    have HRS := hid hr
    have HOK := hid hok
    have HH := hid hh
    have HLA := hid hla
    clear hU hr hok hh hla HLAW HNO hT
    have hl6 : t.rows.length ≤ 6 := HL.out
    go_wp2_with fail
    go_loopw [6, 7] (fun u v wr => ∃ i : Nat, u = .int .i64 (((sweepR (t.rows.take i) now).length : Nat) : Int) ∧ v = .int .i64 (i : Int) ∧ i ≤ t.rows.length ∧ Hid (Below w'.heap.size w' wr) ∧ Hid (Has wr B3 t a3 c3) ∧ Hid (Has wr B5 x a5 c5)) (fun _ v _ => t.rows.length - (intOf v).toNat)
    case atStart => exact ⟨0, rfl, rfl, Nat.zero_le _, HB.out, H3.out, H5.out⟩
    case round =>
      clear H3 H5 HB
      obtain ⟨i, rfl, rfl, hi, HB, H3, H5⟩ := hrel
      obtain ⟨y0, y1⟩ := And.intro H3.out.1.c0 H3.out.1.c1
      by_cases hlt : i < t.rows.length
      case pos =>
        obtain ⟨b, o, rfl, hbl, c1, c2⟩ := H3.out.2 i hlt
        have HI := hid (HH.out i hlt)
        have HC := hid (sweep_count (now := now) hlt)
        have HID := hid (show RoRow wr (some ⟨b, o, none⟩) t.rows from H3.out.2)
        have HCI := hid c1
        have HBL := hid hbl
        obtain ⟨n, hn⟩ : ∃ n, t.rows.length = n := ⟨_, rfl⟩
        have HN := hid hn
        obtain ⟨D, hD⟩ : ∃ D, decide (now < t.rows[i].til) = D := ⟨_, rfl⟩
        have HD := hid hD
        rw [hD] at HI
        obtain ⟨z, hz⟩ : ∃ z, t.rows[i].til = z := ⟨_, rfl⟩
        obtain ⟨id, hid'⟩ : ∃ id, t.rows[i].id = id := ⟨_, rfl⟩
        rw [hz] at c2 hD
        rw [hid'] at c1 HI HCI
        rw [hn] at y1
        have hin : (i : Int) < (n : Int) := by omega
        have hi6 : i < 6 := by omega
        obtain ⟨M, hM⟩ : ∃ M, (sweepR (t.rows.take i) now).length = M := ⟨_, rfl⟩
        have hM6 : M ≤ 6 := by
          have h1 : (sweepR (t.rows.take i) now).length ≤ (t.rows.take i).length := List.length_filter_le _ _
          rw [List.length_take] at h1
          omega
        have HM := hid hM
        rw [hM]
        clear hz hid' hn hM hbl
        have e9 : (D != D) = false := by simp
        have HB1 := hid ((Below.refl wr.heap.size wr).drew)
        cases D with
        | true =>
          go_wp2_with fail
          have HBc := hid ((Below.refl wr.heap.size wr).drew)
          have HSX := hid (show ∀ W', Below wr.heap.size wr W' → W'.cell? ⟨B3, 1, none⟩ = some (.slice (some ⟨b, o, none⟩) n c3) ∧ W'.cell? ⟨b, o + i * 2, none⟩ = some (.string id) ∧ W'.cell? ⟨B5, 0, none⟩ = some (.int .i64 x.most) ∧ W'.cell? ⟨B5, 1, none⟩ = some (.slice a5 x.rows.length c5) from fun W' hb => ⟨by rw [← HN.out]; exact (H3.out.below hb).1.c1, (hb.cell (p := ⟨b, o + i * 2, none⟩) HBL.out).trans HCI.out, (H5.out.below hb).1.c0, (H5.out.below hb).1.c1⟩)
          clear y0 y1 c1 c2
          go_region_held3 (fun w' => w'.cell? ⟨B3, 1, none⟩ = some (.slice (some ⟨b, o, none⟩) n c3) ∧ w'.cell? ⟨b, o + i * 2, none⟩ = some (.string id) ∧ w'.cell? ⟨B5, 0, none⟩ = some (.int .i64 x.most) ∧ w'.cell? ⟨B5, 1, none⟩ = some (.slice a5 x.rows.length c5)) (exact HSX.out _ HBc.out)
            (first
              | (go_at_call 11; refine (hHoldI id (H5.out.below HBc.out) SM5.out).mono ?_; rw [HI.out]; rintro e w9 ⟨rfl, hb9⟩; replace HBc := hid (bb HBc.out hb9); clear hb9))
          have HF := hid (And.intro (bb HB.out HBc.out) (And.intro (H3.out.below HBc.out) (H5.out.below HBc.out)))
          clear HSX HBc HB H3 H5
          have HCN := hid (show (sweepR (t.rows.take (i + 1)) now).length = M + 1 from by
            rw [HC.out, HM.out]
            have hd := HD.out
            simp at hd
            first | rw [if_pos hd] | (rw [if_neg (by omega)]; rfl))
          go_wp2_with fail
          go_roundw
          case rel => exact ⟨i + 1, by rw [HCN.out]; try (first | go_num | rfl), by go_num, by rw [HN.out]; omega, HF.out.1, HF.out.2.1, HF.out.2.2⟩
          case measure => simp [intOf]; rw [HN.out]; omega
        | false =>
          go_wp2_with fail
          have HBc := hid ((Below.refl wr.heap.size wr).drew)
          have HSX := hid (show ∀ W', Below wr.heap.size wr W' → W'.cell? ⟨B3, 1, none⟩ = some (.slice (some ⟨b, o, none⟩) n c3) ∧ W'.cell? ⟨b, o + i * 2, none⟩ = some (.string id) ∧ W'.cell? ⟨B5, 0, none⟩ = some (.int .i64 x.most) ∧ W'.cell? ⟨B5, 1, none⟩ = some (.slice a5 x.rows.length c5) from fun W' hb => ⟨by rw [← HN.out]; exact (H3.out.below hb).1.c1, (hb.cell (p := ⟨b, o + i * 2, none⟩) HBL.out).trans HCI.out, (H5.out.below hb).1.c0, (H5.out.below hb).1.c1⟩)
          clear y0 y1 c1 c2
          go_region_held3 (fun w' => w'.cell? ⟨B3, 1, none⟩ = some (.slice (some ⟨b, o, none⟩) n c3) ∧ w'.cell? ⟨b, o + i * 2, none⟩ = some (.string id) ∧ w'.cell? ⟨B5, 0, none⟩ = some (.int .i64 x.most) ∧ w'.cell? ⟨B5, 1, none⟩ = some (.slice a5 x.rows.length c5)) (exact HSX.out _ HBc.out)
            (first
              | (go_at_call 11; refine (hHoldI id (H5.out.below HBc.out) SM5.out).mono ?_; rw [HI.out]; rintro e w9 ⟨rfl, hb9⟩; replace HBc := hid (bb HBc.out hb9); clear hb9))
          have HF := hid (And.intro (bb HB.out HBc.out) (And.intro (H3.out.below HBc.out) (H5.out.below HBc.out)))
          clear HSX HBc HB H3 H5
          have HCN := hid (show (sweepR (t.rows.take (i + 1)) now).length = M from by
            rw [HC.out, HM.out]
            have hd := HD.out
            simp at hd
            first | rw [if_pos hd] | (rw [if_neg (by omega)]; rfl))
          go_wp2_with fail
          go_roundw
          case rel => exact ⟨i + 1, by rw [HCN.out]; try (first | go_num | rfl), by go_num, by rw [HN.out]; omega, HF.out.1, HF.out.2.1, HF.out.2.2⟩
          case measure => simp [intOf]; rw [HN.out]; omega
      case neg =>
        have hie : i = t.rows.length := by omega
        subst hie
        have HNA := hid (show (sweepR (t.rows.take t.rows.length) now).length = x.rows.length by rw [List.take_length, HRS.out])
        rw [HNA.out]
        clear HNA hi
        have hnx : x.rows.length ≤ 6 := by
          rw [HRS.out]
          exact Nat.le_trans (List.length_filter_le _ _) hl6
        obtain ⟨nx, hnx'⟩ : ∃ nx, x.rows.length = nx := ⟨_, rfl⟩
        have HNX := hid hnx'
        rw [hnx']
        go_wp2_with fail
        clear y0 y1 hnx'
        refine (cPick 1 40 a len cap _ (by decide) (by decide) (by decide) hbig (HCB.out.below HB.out)).mono ?_
        rintro e w12 ⟨y, rfl, hy, rfl⟩
        obtain ⟨lt, hlt'⟩ : ∃ lt, now + (y : Int) = lt := ⟨_, rfl⟩
        have hw : IntKind.i64.wrap lt = lt := IntWalk.i64_in _ (by omega)
        have HZL := hid (HLA.out lt (by omega))
        clear hy hnx HLA
        have SMZ := hid (sm_swept (now := lt) SM3.out)
        obtain ⟨Z, hZ⟩ : ∃ Z, sweptT t lt = Z := ⟨_, rfl⟩
        have HZT := hid hZ
        have HZX := hid (HZL.out.trans hZ)
        rw [hZ] at SMZ
        clear hZ HZL
        have HOX := hid (fun (W' : World) (h : Has W' B5 x a5 c5) => hOkI h SM5.out)
        have HSW := hid (fun (W' : World) (h : Has W' B5 x a5 c5) => hSwI lt Z HZX.out h SM5.out)
        rw [HOK.out, HNX.out] at HOX
        rw [HNX.out] at HSW
        go_upto_region 19 with fail
        obtain ⟨we, hwe⟩ : ∃ we : World, we = w12 := ⟨w12, rfl⟩
        subst hwe
        have HBc := hid ((Below.refl we.heap.size we).drew)
        have e1 : ((nx : Int) == (nx : Int)) = true := by simp
        have HSX := hid (show ∀ W', Below we.heap.size we W' → W'.cell? ⟨B3, 0, none⟩ = some (.int .i64 t.most) ∧ W'.cell? ⟨B3, 1, none⟩ = some (.slice a3 t.rows.length c3) ∧ W'.cell? ⟨B5, 0, none⟩ = some (.int .i64 x.most) ∧ W'.cell? ⟨B5, 1, none⟩ = some (.slice a5 nx c5) from fun W' hb => ⟨(H3.out.below hb).1.c0, (H3.out.below hb).1.c1, (H5.out.below hb).1.c0, by rw [← HNX.out]; exact (H5.out.below hb).1.c1⟩)
        go_region_held3 (fun w' => w'.cell? ⟨B3, 0, none⟩ = some (.int .i64 t.most) ∧ w'.cell? ⟨B3, 1, none⟩ = some (.slice a3 t.rows.length c3) ∧ w'.cell? ⟨B5, 0, none⟩ = some (.int .i64 x.most) ∧ w'.cell? ⟨B5, 1, none⟩ = some (.slice a5 nx c5)) (exact HSX.out _ HBc.out)
          (first
            | (go_at_call 13; refine (HOX.out _ (H5.out.below HBc.out)).mono ?_; rintro e w9 ⟨rfl, hb9⟩; replace HBc := hid (bb HBc.out hb9); clear hb9)
            | (go_at_call 7; with_reducible refine (HSW.out _ (H5.out.below HBc.out)).mono ?_; rintro e w84 ⟨a84, c84, rfl, hro, hb9⟩; (try replace HR87 := hid (HR87.out.below hb9)); have HR84 := hid hro; replace HBc := hid (bb HBc.out hb9); clear hb9 hro)
            | (go_at_call 7; with_reducible refine (hSwI lt Z HZT.out (H3.out.below HBc.out) SM3.out).mono ?_; rintro e w87 ⟨a87, c87, rfl, hro, hb9⟩; (try replace HR84 := hid (HR84.out.below hb9)); have HR87 := hid hro; replace HBc := hid (bb HBc.out hb9); clear hb9 hro)
            | (go_at_call 8; refine (lLike HR84.out HR87.out SMZ.out).mono ?_; rintro e w10 ⟨rfl, hb9⟩; replace HBc := hid (bb HBc.out hb9); clear hb9))
        have HE := hid (bb HB.out HBc.out)
        go_wp2_with fail
        go_ret
        exact ⟨rfl, HE.out⟩

end Go.Proofs.Ytnddphmcagcdiaa
