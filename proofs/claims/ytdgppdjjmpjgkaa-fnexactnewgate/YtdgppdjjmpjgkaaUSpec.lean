/- Contracts of the specification's TableOk, l16Find, Holds, NewTable. -/
import Derived.Test.YtdgppdjjmpjgkaaUMath
namespace Go.Proofs.Ytdgppdjjmpjgkaa
open Go.RowKit
set_option linter.unusedVariables false
set_option linter.unusedSimpArgs false

/-- A table in its box. -/
structure TbBox (w : World) (B : Nat) (m : Int) (v : Value) : Prop where
  there : B < w.heap.size
  c0 : w.cell? ⟨B, 0, none⟩ = some (.int .i64 m)
  c1 : w.cell? ⟨B, 1, none⟩ = some v

theorem TbBox.below {w w' : World} {B : Nat} {m : Int} {v : Value} (h : TbBox w B m v) (hb : Below w.heap.size w w') : TbBox w' B m v :=
  ⟨Nat.lt_of_lt_of_le h.there hb.size, (hb.cell (p := ⟨B, 0, none⟩) h.there).trans h.c0, (hb.cell (p := ⟨B, 1, none⟩) h.there).trans h.c1⟩

theorem TbBox.of {w : World} {B : Nat} {m : Int} {v : Value} {T : TypeId} (h : w.heap[B]? = some (.cells #[.int .i64 m, v] T (0, 0))) : TbBox w B m v :=
  ⟨lt_of_heap h, by rw [Lib.cell_of_heap h]; rfl, by rw [Lib.cell_of_heap h]; rfl⟩

theorem TbBox.new (w : World) (m : Int) (v : Value) (T : TypeId) : TbBox (w.alloc (.cells #[.int .i64 m, v] T)) w.heap.size m v := TbBox.of (heap_alloc_new w _)

theorem ltB_gt {a b : ByteArray} (h : u_ltB b a = true) : Op.bytesLess a.toList b.toList = false ∧ (a.toList == b.toList) = false := by
  refine ⟨?_, ?_⟩
  · cases q : Op.bytesLess a.toList b.toList with
    | false => rfl
    | true =>
      have := u_ltB_trans (x := b) (y := a) (z := b) h q
      rw [u_ltB_irr] at this
      cases this
  · rw [str_beq]
    refine decide_eq_false fun e => ?_
    subst e
    rw [u_ltB_irr] at h
    cases h

theorem ltB_le {a b : ByteArray} (h : u_ltB b a = false) : Op.bytesLess a.toList b.toList = true ∨ (Op.bytesLess a.toList b.toList = false ∧ (a.toList == b.toList) = true) := by
  cases q : Op.bytesLess a.toList b.toList with
  | true => exact .inl rfl
  | false =>
    refine .inr ⟨rfl, ?_⟩
    rw [str_beq]
    exact decide_eq_true (u_ltB_tri (x := a) (y := b) q h)

set_option maxRecDepth 8000 in
set_option maxHeartbeats 4000000 in
theorem cTableOkS (t : Tb) (a : Option Addr) (cap : Nat) (w : World) (hR : RoRow w a t.rows) (hz : RoSz 1048576 t.rows) (hn : t.rows.length ≤ 1048576) :
    Calls Try.prog 23 #[tbV t a cap] w fun e w' => e = .returned (.bool (tableB t)) ∧ Below w.heap.size w w' := by
  obtain ⟨V, hV⟩ : ∃ V, tableB t = V := ⟨_, rfl⟩
  rw [hV]
  unfold tableB at hV
  obtain ⟨m, l⟩ := t
  unfold tbV
  simp only at *
  have HF : Hid (rowsB l = false → V = false) := fun h => by rw [← hV, h, Bool.and_false]
  have HT : Hid (rowsB l = true → V = (mostB m && decide ((l.length : Int) ≤ m))) := fun h => by rw [← hV, h, Bool.and_true]
  have HR := hid hR
  have HZ := hid hz
  clear hV hR hz
  obtain ⟨n, hnn⟩ : ∃ n, l.length = n := ⟨_, rfl⟩
  have HN := hid hnn
  rw [hnn] at hn HT ⊢
  clear hnn
  have HX := hid (TbBox.new w m (.slice a n cap) 33)
  have HB0 := hid ((Below.refl w.heap.size w).alloc (Nat.le_refl _) (.cells #[.int .i64 m, .slice a n cap] 33))
  go_enter Try.func23, Try.ntmps23
  go_wp2_with fail
  obtain ⟨w0, hw0⟩ : ∃ w0, w.alloc (.cells #[.int .i64 m, .slice a n cap] 33) = w0 := ⟨_, rfl⟩
  rw [hw0] at HX HB0 ⊢
  clear hw0
  obtain ⟨B, hB⟩ : ∃ B, w.heap.size = B := ⟨_, rfl⟩
  rw [hB] at HX ⊢
  go_loopw [3] (fun k wr => ∃ i : Nat, k = .int .i64 (i : Int) ∧ i ≤ n ∧ Hid (RowsP l i) ∧ Hid (Below w.heap.size w wr) ∧ Hid (TbBox wr B m (.slice a n cap))) (fun k _ => n - (intOf k).toNat)
  case atStart => exact ⟨0, rfl, Nat.zero_le _, rowsP_zero l, HB0.out, HX.out⟩
  case round =>
    clear HX HB0
    obtain ⟨i, rfl, hi, HP, HB, HX⟩ := hrel
    obtain ⟨x0, x1⟩ := And.intro HX.out.c0 HX.out.c1
    by_cases hlt : i < n
    · have his : i < l.length := by rw [HN.out]; exact hlt
      have hin : (i : Int) < (n : Int) := by omega
      obtain ⟨b, o, rfl, hb, c1, c2⟩ := HR.out.below HB.out i his
      have CI := hid (fun wx => u_c_spec_l12Id l[i].id wx (HZ.out _ (List.getElem_mem his)))
      have CT := hid (fun wx => cTimeS l[i].til wx)
      have HNX := hid (fun h => rowsP_next HP.out his h)
      have HBad := hid (fun h => HF.out (rowsB_f his h))
      have HAt : Hid (RoAt l i his ↔ (u_idOk l[i].id = true ∧ decide (0 ≤ l[i].til ∧ l[i].til ≤ 3155759999) = true) ∧ (0 < i → u_ltB (l[i - 1]'(by omega)).id l[i].id = true)) := by
        unfold RoAt roB utmB
        rw [Bool.and_eq_true]
        exact Iff.rfl
      have hBl := HX.out.there
      have X0 := fun p : BW wr => (p.h.cell (p := ⟨B, 0, none⟩) hBl).trans x0
      have X1 := fun p : BW wr => (p.h.cell (p := ⟨B, 1, none⟩) hBl).trans x1
      have HNB := hid (bw_any wr)
      obtain ⟨d1, d2⟩ := pair_bw hb c1 c2
      have HSTEP : Hid (∀ wq, Below wr.heap.size wr wq → TbBox wq B m (.slice (some ⟨b, o, none⟩) n cap) ∧ Below w.heap.size w wq) := fun wq hq => ⟨HX.out.below hq, bb HB.out hq⟩
      have hcase : (¬ RoAt l i his ∧ (u_idOk l[i].id = false ∨ (u_idOk l[i].id = true ∧ decide (0 ≤ l[i].til ∧ l[i].til ≤ 3155759999) = false))) ∨ (u_idOk l[i].id = true ∧ decide (0 ≤ l[i].til ∧ l[i].til ≤ 3155759999) = true ∧ (i = 0 ∨ 0 < i)) := by
        rw [HAt.out]
        cases u_idOk l[i].id <;> cases decide (0 ≤ l[i].til ∧ l[i].til ≤ 3155759999) <;> simp <;> omega
      rcases hcase with ⟨hno, hq⟩ | ⟨h1, h2, h3⟩
      · have HVF := hid (HBad.out hno)
        clear HAt HNX HBad hno c1 c2
        generalize u_idOk l[i].id = P at *
        generalize decide (0 ≤ l[i].til ∧ l[i].til ≤ 3155759999) = Q at *
        generalize l[i].id = x at *
        generalize l[i].til = y at *
        rcases hq with rfl | ⟨rfl, rfl⟩
        · go_wp2_with fail
          haveI := HNB.out
          refine wp_region_below (by kernel_rfl) (by kernel_rfl) (Below.refl wr.heap.size wr) ?_
          repeat (go_big_quiet_step (first | (go_at_call 45; exact calls_bw _ (CI.out _)) | (go_at_call 22; exact calls_bw _ ((CT.out _).mono fun _ _ ⟨e1, e2⟩ => ⟨e1, by rw [e2]; exact Below.refl _ _⟩))))
          refine wpQuiet_nil ?_
          intro wq hw'
          obtain ⟨⟨wz, hwq⟩, hw''⟩ := hw'
          subst hw''
          have HS := hid (HSTEP.out wq hwq)
          go_wp2_with fail
          go_ret
          exact ⟨by rw [HVF.out]; rfl, hB ▸ HS.out.2⟩
        · go_wp2_with fail
          haveI := HNB.out
          refine wp_region_below (by kernel_rfl) (by kernel_rfl) (Below.refl wr.heap.size wr) ?_
          repeat (go_big_quiet_step (first | (go_at_call 45; exact calls_bw _ (CI.out _)) | (go_at_call 22; exact calls_bw _ ((CT.out _).mono fun _ _ ⟨e1, e2⟩ => ⟨e1, by rw [e2]; exact Below.refl _ _⟩))))
          refine wpQuiet_nil ?_
          intro wq hw'
          obtain ⟨⟨wz, hwq⟩, hw''⟩ := hw'
          subst hw''
          have HS := hid (HSTEP.out wq hwq)
          go_wp2_with fail
          go_ret
          exact ⟨by rw [HVF.out]; rfl, hB ▸ HS.out.2⟩
      · rw [h1] at CI
        rw [h2] at CT
        rcases h3 with rfl | h3
        · have HP1 := hid (HNX.out (HAt.out.2 ⟨⟨h1, h2⟩, fun h => absurd h (Nat.lt_irrefl 0)⟩))
          clear HAt HNX HBad c1 c2 h1 h2
          simp only [Nat.zero_mul, Nat.add_zero] at d1 d2
          generalize l[0].id = x at *
          generalize l[0].til = y at *
          go_wp2_with fail
          haveI := HNB.out
          refine wp_region_below (by kernel_rfl) (by kernel_rfl) (Below.refl wr.heap.size wr) ?_
          repeat (go_big_quiet_step (first | (go_at_call 45; exact calls_bw _ (CI.out _)) | (go_at_call 22; exact calls_bw _ ((CT.out _).mono fun _ _ ⟨e1, e2⟩ => ⟨e1, by rw [e2]; exact Below.refl _ _⟩))))
          refine wpQuiet_nil ?_
          intro wq hw'
          obtain ⟨⟨wz, hwq⟩, hw''⟩ := hw'
          subst hw''
          have HS := hid (HSTEP.out wq hwq)
          clear CI CT d1 d2 X0 X1 HSTEP HNB x0 x1
          go_wp2_with fail
          go_roundw
          case rel => exact ⟨1, by go_num, by omega, HP1.out, HS.out.2, HS.out.1⟩
          case measure => simp [intOf]; omega
        · obtain ⟨k, hk⟩ : ∃ k : Nat, k + 1 = i := ⟨i - 1, by omega⟩
          have hki : (i : Int) - 1 = (k : Int) := by omega
          have hks : k < l.length := by omega
          have hpos : decide ((0 : Int) < (i : Int)) = true := by simp; omega
          obtain ⟨b', o', e', hb', c1', c2'⟩ := HR.out.below HB.out k hks
          cases e'
          obtain ⟨d1', d2'⟩ := pair_bw hb' c1' c2'
          have ek : (l[i - 1]'(by omega)) = l[k] := by simp only [show i - 1 = k by omega]
          have hkl : (k : Int) < (n : Int) := by omega
          rw [ek] at HAt
          cases hl : u_ltB l[k].id l[i].id with
          | true =>
            have HP1 := hid (HNX.out (HAt.out.2 ⟨⟨h1, h2⟩, fun _ => hl⟩))
            obtain ⟨g1, g2⟩ := ltB_gt hl
            clear HAt HNX HBad c1 c2 h1 h2 hl c1' c2' d2' ek
            generalize l[i].id = x at *
            generalize l[i].til = y at *
            generalize l[k].id = z at *
            go_wp2_with fail
            haveI := HNB.out
            refine wp_region_below (by kernel_rfl) (by kernel_rfl) (Below.refl wr.heap.size wr) ?_
            repeat (go_big_quiet_step (first | (go_at_call 45; exact calls_bw _ (CI.out _)) | (go_at_call 22; exact calls_bw _ ((CT.out _).mono fun _ _ ⟨e1, e2⟩ => ⟨e1, by rw [e2]; exact Below.refl _ _⟩))))
            refine wpQuiet_nil ?_
            intro wq hw'
            obtain ⟨⟨wz, hwq⟩, hw''⟩ := hw'
            subst hw''
            have HS := hid (HSTEP.out wq hwq)
            clear CI CT d1 d2 X0 X1 HSTEP HNB x0 x1 d1' g1 g2
            go_wp2_with fail
            go_roundw
            case rel => exact ⟨i + 1, by go_num, by omega, HP1.out, HS.out.2, HS.out.1⟩
            case measure => simp [intOf]; omega
          | false =>
            have HVF := hid (HBad.out (fun h => by have := (HAt.out.1 h).2 h3; rw [hl] at this; cases this))
            have hg := ltB_le hl
            clear HAt HNX HBad c1 c2 h1 h2 hl c1' c2' d2' ek
            generalize l[i].id = x at *
            generalize l[i].til = y at *
            generalize l[k].id = z at *
            rcases hg with g1 | ⟨g1, g2⟩
            · go_wp2_with fail
              haveI := HNB.out
              refine wp_region_below (by kernel_rfl) (by kernel_rfl) (Below.refl wr.heap.size wr) ?_
              repeat (go_big_quiet_step (first | (go_at_call 45; exact calls_bw _ (CI.out _)) | (go_at_call 22; exact calls_bw _ ((CT.out _).mono fun _ _ ⟨e1, e2⟩ => ⟨e1, by rw [e2]; exact Below.refl _ _⟩))))
              refine wpQuiet_nil ?_
              intro wq hw'
              obtain ⟨⟨wz, hwq⟩, hw''⟩ := hw'
              subst hw''
              have HS := hid (HSTEP.out wq hwq)
              go_wp2_with fail
              go_ret
              exact ⟨by rw [HVF.out]; rfl, hB ▸ HS.out.2⟩
            · go_wp2_with fail
              haveI := HNB.out
              refine wp_region_below (by kernel_rfl) (by kernel_rfl) (Below.refl wr.heap.size wr) ?_
              repeat (go_big_quiet_step (first | (go_at_call 45; exact calls_bw _ (CI.out _)) | (go_at_call 22; exact calls_bw _ ((CT.out _).mono fun _ _ ⟨e1, e2⟩ => ⟨e1, by rw [e2]; exact Below.refl _ _⟩))))
              refine wpQuiet_nil ?_
              intro wq hw'
              obtain ⟨⟨wz, hwq⟩, hw''⟩ := hw'
              subst hw''
              have HS := hid (HSTEP.out wq hwq)
              go_wp2_with fail
              go_ret
              exact ⟨by rw [HVF.out]; rfl, hB ▸ HS.out.2⟩
    · have hie : i = n := by omega
      subst hie
      have HVT := hid (HT.out (rowsB_t (by rw [HN.out]; exact HP.out)))
      have CM := hid (fun wx => cIn m 1 20 wx)
      clear HP
      by_cases h1 : 1 ≤ m ∧ m ≤ 20
      · have hd : decide (1 ≤ m ∧ m ≤ 20) = true := decide_eq_true h1
        rw [hd] at CM
        have HD := hid (show V = decide ((i : Int) ≤ m) by rw [HVT.out]; unfold mostB; rw [hd, Bool.true_and])
        clear hd
        cases hq : decide ((i : Int) ≤ m) with
        | true =>
          have hq' : (i : Int) ≤ m := by simpa using hq
          go_wp2_with fail
          refine (CM.out _).mono ?_
          rintro e w1 ⟨rfl, rfl⟩
          go_wp2_with fail
          go_ret
          exact ⟨by rw [HD.out, hq]; rfl, hB ▸ HB.out⟩
        | false =>
          have hq' : ¬ (i : Int) ≤ m := by simpa using hq
          go_wp2_with fail
          refine (CM.out _).mono ?_
          rintro e w1 ⟨rfl, rfl⟩
          go_wp2_with fail
          go_ret
          exact ⟨by rw [HD.out, hq]; rfl, hB ▸ HB.out⟩
      · have hd : decide (1 ≤ m ∧ m ≤ 20) = false := decide_eq_false h1
        rw [hd] at CM
        have HD := hid (show V = false by rw [HVT.out]; unfold mostB; rw [hd, Bool.false_and])
        clear hd h1
        go_wp2_with fail
        refine (CM.out _).mono ?_
        rintro e w1 ⟨rfl, rfl⟩
        go_wp2_with fail
        go_ret
        exact ⟨by rw [HD.out]; rfl, hB ▸ HB.out⟩

end Go.Proofs.Ytdgppdjjmpjgkaa
