/- Contracts of the program's rowAt, rowOk, rowsOk, mostOk, TableOk, Holds. -/
import Derived.Test.YtdgppdjjmpjgkaaUImA
namespace Go.Proofs.Ytdgppdjjmpjgkaa
open Go.RowKit
set_option linter.unusedVariables false
set_option linter.unusedSimpArgs false

theorem cMostOk (x : Int) (w : World) :
    Calls Try.prog 51 #[.int .i64 x] w fun e w' => e = .returned (.bool (mostB x)) ∧ w' = w := by
  unfold mostB
  go_enter Try.func51, Try.ntmps51
  go_wp2
  all_goals go_ret
  all_goals exact ⟨by congr 2; simp; try omega, rfl⟩

set_option maxHeartbeats 1000000 in
theorem cRowOk (x : ByteArray) (y : Int) (w : World) (hx : x.size ≤ 1048576) :
    Calls Try.prog 69 #[.agg #[.string x, .int .i64 y]] w fun e w' => e = .returned (.bool (roB ⟨x, y⟩)) ∧ Below w.heap.size w w' := by
  have CI := hid (fun wx => u_cIdOk x wx hx)
  have CT := hid (fun wx => cTimeI y wx)
  have HB0 := hid ((Below.refl w.heap.size w).alloc (Nat.le_refl _) (.cells #[.string x, .int .i64 y] 74))
  unfold roB utmB
  simp only
  generalize u_idOk x = P at *
  generalize decide (0 ≤ y ∧ y ≤ 3155759999) = Q at *
  go_enter Try.func69, Try.ntmps69
  go_wp2_with fail
  refine (CI.out _).mono ?_
  rintro e w1 ⟨rfl, rfl⟩
  cases P
  · go_wp2_with fail
    go_ret
    exact ⟨rfl, HB0.out⟩
  · go_wp2_with fail
    refine (CT.out _).mono ?_
    rintro e w2 ⟨rfl, rfl⟩
    go_wp2_with fail
    go_ret
    exact ⟨rfl, HB0.out⟩

theorem ltB_geq {a b : ByteArray} : (!(Op.bytesLess a.toList b.toList)) = !(u_ltB a b) := rfl

set_option maxRecDepth 8000 in
set_option maxHeartbeats 4000000 in
theorem cRowsOk (a : Option Addr) (cap : Nat) (l : List Ro) (w : World) (hR : RoRow w a l) (hz : RoSz 1048576 l) (hn : l.length ≤ 1048576) :
    Calls Try.prog 52 #[.slice a l.length cap] w fun e w' => e = .returned (.bool (rowsB l)) ∧ Below w.heap.size w w' := by
  obtain ⟨V, hV⟩ : ∃ V, rowsB l = V := ⟨_, rfl⟩
  rw [hV]
  have HF : Hid (rowsB l = false → V = false) := fun h => by rw [← hV, h]
  have HT : Hid (RowsP l l.length → V = true) := fun h => by rw [← hV]; exact rowsB_t h
  have HR := hid hR
  have HZ := hid hz
  clear hV hR hz
  obtain ⟨n, hnn⟩ : ∃ n, l.length = n := ⟨_, rfl⟩
  have HN := hid hnn
  rw [hnn] at hn HT ⊢
  clear hnn
  go_enter Try.func52, Try.ntmps52
  go_wp2_with fail
  go_loopw [7] (fun k wr => ∃ i : Nat, k = .int .i64 (i : Int) ∧ i ≤ n ∧ Hid (RowsP l i) ∧ Hid (Below w.heap.size w wr)) (fun k _ => n - (intOf k).toNat)
  case atStart => exact ⟨0, rfl, Nat.zero_le _, rowsP_zero l, Below.refl _ _⟩
  case round =>
    obtain ⟨i, rfl, hi, HP, HB⟩ := hrel
    by_cases hlt : i < n
    · have his : i < l.length := by rw [HN.out]; exact hlt
      have hin : (i : Int) < (n : Int) := by omega
      obtain ⟨b, o, rfl, hb, c1, c2⟩ := HR.out.below HB.out i his
      have CR := hid (fun wx => cRowOk l[i].id l[i].til wx (HZ.out _ (List.getElem_mem his)))
      have HNX := hid (fun h => rowsP_next HP.out his h)
      have HBad := hid (fun h => HF.out (rowsB_f his h))
      have HAt : Hid (RoAt l i his ↔ roB ⟨l[i].id, l[i].til⟩ = true ∧ (0 < i → u_ltB (l[i - 1]'(by omega)).id l[i].id = true)) := Iff.rfl
      have M := hid (heap_alloc_new wr (.cells #[.string l[i].id, .int .i64 l[i].til] 74))
      have HB0 := hid (HB.out.alloc HB.out.size (.cells #[.string l[i].id, .int .i64 l[i].til] 74))
      obtain ⟨g, hg⟩ : ∃ g, wr.heap.size = g := ⟨_, rfl⟩
      have hprev : i = 0 ∨ ∃ k : Nat, k + 1 = i := by
        rcases Nat.eq_zero_or_pos i with h | h
        · exact .inl h
        · exact .inr ⟨i - 1, by omega⟩
      cases hr : roB ⟨l[i].id, l[i].til⟩ with
      | false =>
        have HVF := hid (HBad.out (fun h => by have := (HAt.out.1 h).1; rw [hr] at this; cases this))
        rw [hr] at CR
        clear HAt HNX HBad hr hprev
        generalize l[i].id = x at *
        generalize l[i].til = y at *
        go_wp2_with fail
        obtain ⟨W0, hW0⟩ : ∃ W0, wr.alloc (.cells #[.string x, .int .i64 y] 74) = W0 := ⟨_, rfl⟩
        rw [hW0] at M HB0
        simp only [hW0, hg] at M ⊢
        have hgl := lt_of_heap M.out
        obtain ⟨m0, m1⟩ := u_box2c M.out
        have X0 := fun p : BW W0 => (p.h.cell (p := ⟨g, 0, none⟩) hgl).trans m0
        have X1 := fun p : BW W0 => (p.h.cell (p := ⟨g, 1, none⟩) hgl).trans m1
        have HNB := hid (bw_any W0)
        clear hW0
        haveI := HNB.out
        refine wp_region_below (by kernel_rfl) (by kernel_rfl) (Below.refl W0.heap.size W0) ?_
        repeat (go_big_quiet_step ((go_at_call 69; exact calls_bw _ (CR.out _))))
        refine wpQuiet_nil ?_
        intro wq hw'
        obtain ⟨⟨wz, hwq⟩, hw''⟩ := hw'
        subst hw''
        have HS := hid (bb HB0.out hwq)
        go_wp2_with fail
        go_ret
        exact ⟨by rw [HVF.out]; rfl, HS.out⟩
      | true =>
        rw [hr] at CR
        rcases hprev with rfl | ⟨k, hk⟩
        · have HP1 := hid (HNX.out (HAt.out.2 ⟨hr, fun h => absurd h (Nat.lt_irrefl 0)⟩))
          clear HAt HNX HBad hr
          simp only [Nat.zero_mul, Nat.add_zero] at c1 c2
          generalize l[0].id = x at *
          generalize l[0].til = y at *
          go_wp2_with fail
          obtain ⟨W0, hW0⟩ : ∃ W0, wr.alloc (.cells #[.string x, .int .i64 y] 74) = W0 := ⟨_, rfl⟩
          rw [hW0] at M HB0
          simp only [hW0, hg] at M ⊢
          have hgl := lt_of_heap M.out
          obtain ⟨m0, m1⟩ := u_box2c M.out
          have X0 := fun p : BW W0 => (p.h.cell (p := ⟨g, 0, none⟩) hgl).trans m0
          have X1 := fun p : BW W0 => (p.h.cell (p := ⟨g, 1, none⟩) hgl).trans m1
          have HNB := hid (bw_any W0)
          clear hW0
          haveI := HNB.out
          refine wp_region_below (by kernel_rfl) (by kernel_rfl) (Below.refl W0.heap.size W0) ?_
          repeat (go_big_quiet_step ((go_at_call 69; exact calls_bw _ (CR.out _))))
          refine wpQuiet_nil ?_
          intro wq hw'
          obtain ⟨⟨wz, hwq⟩, hw''⟩ := hw'
          subst hw''
          have HS := hid (bb HB0.out hwq)
          clear CR X0 X1 HNB m0 m1 M HB0 HB
          go_wp2_with fail
          go_roundw
          case rel => exact ⟨1, by go_num, by omega, HP1.out, HS.out⟩
          case measure => simp [intOf]; omega
        · have h3 : 0 < i := by omega
          have hki : (i : Int) - 1 = (k : Int) := by omega
          have hks : k < l.length := by omega
          have hpos : decide ((0 : Int) < (i : Int)) = true := by simp; omega
          obtain ⟨b', o', e', hb', c1', c2'⟩ := HR.out.below HB0.out k hks
          cases e'
          have hb2 : b < (wr.alloc (.cells #[.string l[i].id, .int .i64 l[i].til] 74)).heap.size := hb'
          have ek : (l[i - 1]'(by omega)) = l[k] := by simp only [show i - 1 = k by omega]
          have hkl : (k : Int) < (n : Int) := by omega
          rw [ek] at HAt
          have hcase : (u_ltB l[k].id l[i].id = true ∧ RoAt l i his) ∨ (u_ltB l[k].id l[i].id = false ∧ ¬ RoAt l i his) := by
            rw [HAt.out]
            cases u_ltB l[k].id l[i].id <;> simp [hr, h3]
          unfold u_ltB at hcase
          rcases hcase with ⟨hl, hq⟩ | ⟨hl, hq⟩
          · have HP1 := hid (HNX.out hq)
            clear HAt HNX HBad hr hq ek c2'
            generalize l[i].id = x at *
            generalize l[i].til = y at *
            generalize l[k].id = z at *
            go_wp2_with fail
            obtain ⟨W0, hW0⟩ : ∃ W0, wr.alloc (.cells #[.string x, .int .i64 y] 74) = W0 := ⟨_, rfl⟩
            rw [hW0] at M HB0 hb2 c1'
            simp only [hW0, hg] at M ⊢
            have hgl := lt_of_heap M.out
            obtain ⟨m0, m1⟩ := u_box2c M.out
            have X0 := fun p : BW W0 => (p.h.cell (p := ⟨g, 0, none⟩) hgl).trans m0
            have X1 := fun p : BW W0 => (p.h.cell (p := ⟨g, 1, none⟩) hgl).trans m1
            have X2 := fun p : BW W0 => (p.h.cell (p := ⟨b, o + k * 2, none⟩) hb2).trans c1'
            have HNB := hid (bw_any W0)
            clear hW0
            haveI := HNB.out
            refine wp_region_below (by kernel_rfl) (by kernel_rfl) (Below.refl W0.heap.size W0) ?_
            repeat (go_big_quiet_step ((go_at_call 69; exact calls_bw _ (CR.out _))))
            refine wpQuiet_nil ?_
            intro wq hw'
            obtain ⟨⟨wz, hwq⟩, hw''⟩ := hw'
            subst hw''
            have HS := hid (bb HB0.out hwq)
            clear CR X0 X1 X2 HNB m0 m1 M HB0 HB c1' hl
            go_wp2_with fail
            go_roundw
            case rel => exact ⟨i + 1, by go_num, by omega, HP1.out, HS.out⟩
            case measure => simp [intOf]; omega
          · have HVF := hid (HBad.out hq)
            clear HAt HNX HBad hr hq ek c2'
            generalize l[i].id = x at *
            generalize l[i].til = y at *
            generalize l[k].id = z at *
            go_wp2_with fail
            obtain ⟨W0, hW0⟩ : ∃ W0, wr.alloc (.cells #[.string x, .int .i64 y] 74) = W0 := ⟨_, rfl⟩
            rw [hW0] at M HB0 hb2 c1'
            simp only [hW0, hg] at M ⊢
            have hgl := lt_of_heap M.out
            obtain ⟨m0, m1⟩ := u_box2c M.out
            have X0 := fun p : BW W0 => (p.h.cell (p := ⟨g, 0, none⟩) hgl).trans m0
            have X1 := fun p : BW W0 => (p.h.cell (p := ⟨g, 1, none⟩) hgl).trans m1
            have X2 := fun p : BW W0 => (p.h.cell (p := ⟨b, o + k * 2, none⟩) hb2).trans c1'
            have HNB := hid (bw_any W0)
            clear hW0
            haveI := HNB.out
            refine wp_region_below (by kernel_rfl) (by kernel_rfl) (Below.refl W0.heap.size W0) ?_
            repeat (go_big_quiet_step ((go_at_call 69; exact calls_bw _ (CR.out _))))
            refine wpQuiet_nil ?_
            intro wq hw'
            obtain ⟨⟨wz, hwq⟩, hw''⟩ := hw'
            subst hw''
            have HS := hid (bb HB0.out hwq)
            go_wp2_with fail
            go_ret
            exact ⟨by rw [HVF.out]; rfl, HS.out⟩
    · have hie : i = n := by omega
      subst hie
      have HVT := hid (HT.out HP.out)
      go_wp2_with fail
      go_ret
      exact ⟨by rw [HVT.out]; rfl, HB.out⟩

set_option maxHeartbeats 2000000 in
theorem cTableOkI (t : Tb) (a : Option Addr) (cap : Nat) (w : World) (hR : RoRow w a t.rows) (hz : RoSz 1048576 t.rows) (hn : t.rows.length ≤ 1048576) :
    Calls Try.prog 29 #[tbV t a cap] w fun e w' => e = .returned (.bool (tableB t)) ∧ Below w.heap.size w w' := by
  have CR := hid (fun wx (h : Below w.heap.size w wx) => cRowsOk a cap t.rows wx (hR.below h) hz hn)
  have CM := hid (fun wx => cMostOk t.most wx)
  have HB0 := hid ((Below.refl w.heap.size w).alloc (Nat.le_refl _) (.cells #[.int .i64 t.most, .slice a t.rows.length cap] 33))
  have HX := hid (TbBox.new w t.most (.slice a t.rows.length cap) 33)
  unfold tableB tbV
  generalize rowsB t.rows = V at *
  generalize t.rows.length = n at *
  generalize t.most = m at *
  generalize mostB m = M at *
  clear hR hz
  cases M
  · go_enter Try.func29, Try.ntmps29
    go_wp2_with fail
    refine (CM.out _).mono ?_
    rintro e w1 ⟨rfl, rfl⟩
    go_wp2_with fail
    go_ret
    exact ⟨rfl, HB0.out⟩
  · cases hq : decide ((n : Int) ≤ m) with
    | false =>
      have hq' : ¬ (n : Int) ≤ m := by simpa using hq
      go_enter Try.func29, Try.ntmps29
      go_wp2_with fail
      refine (CM.out _).mono ?_
      rintro e w1 ⟨rfl, rfl⟩
      go_wp2_with fail
      go_ret
      exact ⟨rfl, HB0.out⟩
    | true =>
      have hq' : (n : Int) ≤ m := by simpa using hq
      go_enter Try.func29, Try.ntmps29
      go_wp2_with fail
      refine (CM.out _).mono ?_
      rintro e w1 ⟨rfl, rfl⟩
      go_wp2_with fail
      refine (CR.out _ HB0.out).mono ?_
      rintro e w2 ⟨rfl, hb2⟩
      have HB2 := hid (bb HB0.out hb2)
      clear hb2
      go_wp2_with fail
      go_ret
      exact ⟨by cases V <;> rfl, HB2.out⟩

end Go.Proofs.Ytdgppdjjmpjgkaa
