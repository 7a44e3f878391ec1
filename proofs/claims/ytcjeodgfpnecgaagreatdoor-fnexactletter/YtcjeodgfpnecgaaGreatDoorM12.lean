/- Contracts of the small tests on times, of the program and of the specification. Contracts of the specification's l14Word, l14Blank, ClaimOk. Contract of the specification's ClaimOk. -/
import Derived.Test.YtcjeodgfpnecgaaGreatDoorRows
import Derived.Test.YtcjeodgfpnecgaaGreatDoorM11
import Derived.Test.YtcjeodgfpnecgaaGreatDoorM6
import Derived.WalkKit
namespace Go.Proofs.YtcjeodgfpnecgaaGreatDoor
open Go.RowKit
set_option linter.unusedVariables false
set_option linter.unusedSimpArgs false

theorem cIn (x lo hi : Int) (w : World) :
    Calls Tryz.prog 31 #[.int .i64 x, .int .i64 lo, .int .i64 hi] w fun e w' => e = .returned (.bool (decide (lo ≤ x ∧ x ≤ hi))) ∧ w' = w := by
  go_enter Tryz.func31, Tryz.ntmps31
  go_wp2
  all_goals go_ret
  all_goals exact ⟨by congr 2; simp; try omega, rfl⟩

theorem cTimeS (x : Int) (w : World) :
    Calls Tryz.prog 29 #[.int .i64 x] w fun e w' => e = .returned (.bool (decide (0 ≤ x ∧ x ≤ 3155759999))) ∧ w' = w := by
  go_enter Tryz.func29, Tryz.ntmps29
  go_wp2_with (go_at_call 31; refine (cIn _ _ _ _).mono ?_; rintro e w' ⟨rfl, rfl⟩)
  go_ret
  exact ⟨by congr 2; simp, rfl⟩

theorem cTimeI (x : Int) (w : World) :
    Calls Tryz.prog 74 #[.int .i64 x] w fun e w' => e = .returned (.bool (decide (0 ≤ x ∧ x ≤ 3155759999))) ∧ w' = w := by
  go_enter Tryz.func74, Tryz.ntmps74
  go_wp2
  all_goals go_ret
  all_goals exact ⟨by congr 2; simp; try omega, rfl⟩

end Go.Proofs.YtcjeodgfpnecgaaGreatDoor

namespace Go.Proofs.YtcjeodgfpnecgaaGreatDoor
open Go.RowKit
set_option linter.unusedVariables false
set_option linter.unusedSimpArgs false

set_option maxHeartbeats 2000000 in
theorem c_spec_l14Word (s : ByteArray) (w : World) (hs : s.size ≤ 1048576) :
    Calls Tryz.prog 28 #[.string s] w fun e w' => e = .returned (.bool (wordB s)) ∧ Below w.heap.size w w' := by
  have C := hid (fun wx => c_spec_l1Of wordLS 20 s wx hs (by decide) (by decide))
  have E := empty_is s
  unfold wordB
  generalize ofB wordLS 20 s = V at *
  cases q : decide (s.size = 0) with
  | true =>
    rw [q] at E
    clear q hs
    go_enter Tryz.func28, Tryz.ntmps28
    go_wp2_with fail
    go_ret
    exact ⟨rfl, Below.refl _ _⟩
  | false =>
    rw [q] at E
    clear q hs
    go_enter Tryz.func28, Tryz.ntmps28
    go_wp2_with fail
    refine (C.out _).mono ?_
    rintro e w1 ⟨rfl, hb1⟩
    have HB1 := hid hb1
    clear hb1 C
    go_wp2_with fail
    go_ret
    exact ⟨rfl, HB1.out⟩

theorem c_spec_l14Blank (c : Int) (w : World) (h0 : 0 ≤ c) (h1 : c ≤ 255) :
    Calls Tryz.prog 32 #[.int .u8 c] w fun e w' => e = .returned (.bool (gapB c)) ∧ w' = w := by
  go_enter Tryz.func32, Tryz.ntmps32
  go_wp2
  all_goals go_ret
  all_goals exact ⟨ret_boolE (by rw [Bool.eq_iff_iff]; simp [gapB]; try omega), rfl⟩

/-- The cells of a claim in its box. -/
theorem box_claim (w : World) (c : Cm) (a : Option Addr) (cap : Nat) (T : TypeId) :
    (w.alloc (.cells #[.string c.id, .string c.iss, .string c.sub, .int .i64 c.frm, .int .i64 c.til, .string c.whom, .string c.ans, .slice a c.facts.length cap] T)).heap[w.heap.size]? = some (.cells #[.string c.id, .string c.iss, .string c.sub, .int .i64 c.frm, .int .i64 c.til, .string c.whom, .string c.ans, .slice a c.facts.length cap] T (0, 0)) := heap_alloc_new _ _

theorem fval_no {s : ByteArray} (h : ¬ (1 ≤ s.size ∧ s.size ≤ 30)) : fvalB s = false := by
  unfold fvalB
  rw [dif_neg h]

theorem fval_is {s : ByteArray} {m : Nat} (h : s.size = m + 1) (h2 : s.size ≤ 30) (h0 : 0 < s.size) (hm : m < s.size) : fvalB s = (plainL s.data.toList && !gapB ((s[0]'h0).toNat : Int) && !gapB ((s[m]'hm).toNat : Int)) := by
  unfold fvalB
  rw [dif_pos ⟨by omega, h2⟩]
  have e : s.size - 1 = m := by omega
  simp only [e]

end Go.Proofs.YtcjeodgfpnecgaaGreatDoor

namespace Go.Proofs.YtcjeodgfpnecgaaGreatDoor
open Go.RowKit
set_option linter.unusedVariables false
set_option linter.unusedSimpArgs false

/-- The box of a claim. -/
structure ClBox (w : World) (B : Nat) (c : Cm) (v : Value) : Prop where
  lt : B < w.heap.size
  c0 : w.cell? ⟨B, 0, none⟩ = some (.string c.id)
  c1 : w.cell? ⟨B, 1, none⟩ = some (.string c.iss)
  c2 : w.cell? ⟨B, 2, none⟩ = some (.string c.sub)
  c3 : w.cell? ⟨B, 3, none⟩ = some (.int .i64 c.frm)
  c4 : w.cell? ⟨B, 4, none⟩ = some (.int .i64 c.til)
  c5 : w.cell? ⟨B, 5, none⟩ = some (.string c.whom)
  c6 : w.cell? ⟨B, 6, none⟩ = some (.string c.ans)
  c7 : w.cell? ⟨B, 7, none⟩ = some v

theorem ClBox.below {w w' : World} {B : Nat} {c : Cm} {v : Value} (h : ClBox w B c v) (hb : Below w.heap.size w w') : ClBox w' B c v :=
  ⟨Nat.lt_of_lt_of_le h.lt hb.size, (hb.cell h.lt).trans h.c0, (hb.cell h.lt).trans h.c1, (hb.cell h.lt).trans h.c2, (hb.cell h.lt).trans h.c3, (hb.cell h.lt).trans h.c4, (hb.cell h.lt).trans h.c5, (hb.cell h.lt).trans h.c6, (hb.cell h.lt).trans h.c7⟩

theorem ClBox.of {w : World} {B : Nat} {c : Cm} {v : Value} {T : TypeId} (h : w.heap[B]? = some (.cells #[.string c.id, .string c.iss, .string c.sub, .int .i64 c.frm, .int .i64 c.til, .string c.whom, .string c.ans, v] T (0, 0))) : ClBox w B c v := by
  have hl : B < w.heap.size := by
    rcases Nat.lt_or_ge B w.heap.size with h' | h'
    · exact h'
    · rw [Array.getElem?_eq_none h'] at h
      cases h
  exact ⟨hl, Lib.cell_of_heap h _, Lib.cell_of_heap h _, Lib.cell_of_heap h _, Lib.cell_of_heap h _, Lib.cell_of_heap h _, Lib.cell_of_heap h _, Lib.cell_of_heap h _, Lib.cell_of_heap h _⟩

theorem ClBox.new (w : World) (c : Cm) (v : Value) (T : TypeId) : ClBox (w.alloc (.cells #[.string c.id, .string c.iss, .string c.sub, .int .i64 c.frm, .int .i64 c.til, .string c.whom, .string c.ans, v] T)) w.heap.size c v := ClBox.of (heap_alloc_new _ _)

set_option maxRecDepth 8000 in
set_option maxHeartbeats 8000000 in
theorem cClaimOkS (c : Cm) (a : Option Addr) (cap : Nat) (w : World) (hR : AtRow w a c.facts) (hz : CmSz 1048576 c) :
    Calls Tryz.prog 14 #[cmV c a cap] w fun e w' => e = .returned (.bool (claimB c)) ∧ Below w.heap.size w w' := by
  obtain ⟨z1, z2, z3, z4, z5, z6, z7⟩ := hz
  have C1 := hid (fun wx => c_spec_l12Id c.id wx z1)
  have C2 := hid (fun wx => c_spec_l14Word c.iss wx z2)
  have C3 := hid (fun wx => c_spec_l14Word c.sub wx z3)
  have C4 := hid (fun wx => c_spec_l14Word c.whom wx z4)
  have C5 := hid (fun wx => c_spec_l12Id c.ans wx z5)
  have C6 := hid (fun wx => cTimeS c.frm wx)
  have C7 := hid (fun wx => cTimeS c.til wx)
  have E := empty_is c.ans
  have HX := hid (ClBox.new w c (.slice a c.facts.length cap) 31)
  have HB0 := hid ((Below.refl w.heap.size w).alloc (Nat.le_refl _) (.cells #[.string c.id, .string c.iss, .string c.sub, .int .i64 c.frm, .int .i64 c.til, .string c.whom, .string c.ans, .slice a c.facts.length cap] 31))
  unfold cmV claimB
  change Hid (∀ wx, Calls Tryz.prog 29 #[.int .i64 c.frm] wx fun e w' => e = .returned (.bool (timeB c.frm)) ∧ w' = wx) at C6
  change Hid (∀ wx, Calls Tryz.prog 29 #[.int .i64 c.til] wx fun e w' => e = .returned (.bool (timeB c.til)) ∧ w' = wx) at C7
  obtain ⟨w0, hw0⟩ : ∃ w0, w.alloc (.cells #[.string c.id, .string c.iss, .string c.sub, .int .i64 c.frm, .int .i64 c.til, .string c.whom, .string c.ans, .slice a c.facts.length cap] 31) = w0 := ⟨_, rfl⟩
  rw [hw0] at HX HB0
  have HR := hid hR
  have HZ := hid z7
  clear hR z1 z2 z3 z4 z5 z7
  obtain ⟨B, hB⟩ : ∃ B, w.heap.size = B := ⟨_, rfl⟩
  rw [hB] at HX
  have f0 := HX.out.c0
  generalize idOk c.id = b1 at *
  generalize wordB c.iss = b2 at *
  generalize wordB c.sub = b3 at *
  generalize wordB c.whom = b4 at *
  generalize idOk c.ans = b5 at *
  generalize decide (c.ans.size = 0) = b0 at *
  generalize timeB c.frm = b6 at *
  generalize timeB c.til = b7 at *
  obtain ⟨b8, hb8⟩ : ∃ b8, decide (c.facts.length ≤ 4) = b8 := ⟨_, rfl⟩
  have e8 : decide ((4 : Int) < (c.facts.length : Int)) = !b8 := by
    rw [← hb8]
    by_cases h : c.facts.length ≤ 4
    · rw [decide_eq_true h, decide_eq_false (by omega)]; rfl
    · rw [decide_eq_false h, decide_eq_true (by omega)]; rfl
  have HF4 := hid (fun (h : b8 = false) => factsB_4 (l := c.facts) (by rw [h] at hb8; have := of_decide_eq_false hb8; omega))
  have H84 := hid (fun (h : b8 = true) => show c.facts.length ≤ 4 from by rw [h] at hb8; exact of_decide_eq_true hb8)
  clear hb8
  generalize hL : c.facts = L at *
  clear hL
  obtain ⟨n, hnn⟩ : ∃ n, L.length = n := ⟨_, rfl⟩
  have HN := hid hnn
  rw [hnn] at HX e8 H84 z6 hw0 ⊢
  clear hnn
  obtain ⟨FB, hFB⟩ : ∃ FB, factsB L = FB := ⟨_, rfl⟩
  rw [hFB] at HF4 ⊢
  have HFB := hid hFB
  clear hFB
  obtain ⟨K, hK⟩ : ∃ K, (b1 && b2 && b3 && b4 && (b0 || b5) && b6 && b7 && b8) = K := ⟨_, rfl⟩
  have HK := hid hK
  clear hK
  have HG : Hid (K = false → (b1 && b2 && b3 && b4 && (b0 || b5) && b6 && b7 && FB) = false) := fun h => by
    rw [← HK.out] at h
    cases hb : b8 with
    | false => rw [HF4.out hb]; simp
    | true => rw [hb, Bool.and_true] at h; rw [h]; rfl
  have HT : Hid (K = true → (b1 && b2 && b3 && b4 && (b0 || b5) && b6 && b7 && FB) = FB ∧ n ≤ 4) := fun h => by
    rw [← HK.out] at h
    rw [Bool.and_eq_true] at h
    exact ⟨by rw [h.1, Bool.true_and], H84.out h.2⟩
  generalize (b1 && b2 && b3 && b4 && (b0 || b5) && b6 && b7 && FB) = W at *
  go_enter Tryz.func14, Tryz.ntmps14
  go_upto_region 1 with fail
  go_cut [56] from 6 (fun v wv => v = .bool (!K) ∧ Hid (ClBox wv B c (.slice a n cap) ∧ Below w.heap.size w wv))
  case first =>
    have HX0 := HX
    have f1 := HX0.out.c0
    go_wp2_with fail
    refine (C1.out _).mono ?_
    rintro e w1 ⟨rfl, hb1⟩
    have HX1 := hid (HX0.out.below hb1)
    have HB1 := hid (bb HB0.out hb1)
    clear hb1 f1 C1
    cases b1 with
    | false =>
      go_wp2_with fail
      go_meet
      exact ⟨by rw [← HK.out]; simp, HX1.out, HB1.out⟩
    | true =>
    have f2 := HX1.out.c1
    go_wp2_with fail
    refine (C2.out _).mono ?_
    rintro e w2 ⟨rfl, hb2⟩
    have HX2 := hid (HX1.out.below hb2)
    have HB2 := hid (bb HB1.out hb2)
    clear hb2 f2 C2
    cases b2 with
    | false =>
      go_wp2_with fail
      go_meet
      exact ⟨by rw [← HK.out]; simp, HX2.out, HB2.out⟩
    | true =>
    have f3 := HX2.out.c2
    go_wp2_with fail
    refine (C3.out _).mono ?_
    rintro e w3 ⟨rfl, hb3⟩
    have HX3 := hid (HX2.out.below hb3)
    have HB3 := hid (bb HB2.out hb3)
    clear hb3 f3 C3
    cases b3 with
    | false =>
      go_wp2_with fail
      go_meet
      exact ⟨by rw [← HK.out]; simp, HX3.out, HB3.out⟩
    | true =>
    have f4 := HX3.out.c5
    go_wp2_with fail
    refine (C4.out _).mono ?_
    rintro e w4 ⟨rfl, hb4⟩
    have HX4 := hid (HX3.out.below hb4)
    have HB4 := hid (bb HB3.out hb4)
    clear hb4 f4 C4
    cases b4 with
    | false =>
      go_wp2_with fail
      go_meet
      exact ⟨by rw [← HK.out]; simp, HX4.out, HB4.out⟩
    | true =>
    have f9 := HX4.out.c6
    cases b0 with
    | true =>
      have f6 := HX4.out.c3
      go_wp2_with fail
      refine (C6.out _).mono ?_
      rintro e w6 ⟨rfl, rfl⟩
      clear f6 C6
      have HX6 := HX4
      have HB6 := HB4
      cases b6 with
      | false =>
        go_wp2_with fail
        go_meet
        exact ⟨by rw [← HK.out]; simp, HX6.out, HB6.out⟩
      | true =>
      have f7 := HX6.out.c4
      go_wp2_with fail
      refine (C7.out _).mono ?_
      rintro e w7 ⟨rfl, rfl⟩
      clear f7 C7
      have HX7 := HX6
      have HB7 := HB6
      cases b7 with
      | false =>
        go_wp2_with fail
        go_meet
        exact ⟨by rw [← HK.out]; simp, HX7.out, HB7.out⟩
      | true =>
      have f8 := HX7.out.c7
      go_wp2_with fail
      go_meet
      exact ⟨by rw [← HK.out]; simp, HX7.out, HB7.out⟩
    | false =>
      have f5 := HX4.out.c6
      go_wp2_with fail
      refine (C5.out _).mono ?_
      rintro e w5 ⟨rfl, hb5⟩
      have HX5 := hid (HX4.out.below hb5)
      have HB5 := hid (bb HB4.out hb5)
      clear hb5 f5 C5
      cases b5 with
      | false =>
        go_wp2_with fail
        go_meet
        exact ⟨by rw [← HK.out]; simp, HX5.out, HB5.out⟩
      | true =>
      have f6 := HX5.out.c3
      go_wp2_with fail
      refine (C6.out _).mono ?_
      rintro e w6 ⟨rfl, rfl⟩
      clear f6 C6
      have HX6 := HX5
      have HB6 := HB5
      cases b6 with
      | false =>
        go_wp2_with fail
        go_meet
        exact ⟨by rw [← HK.out]; simp, HX6.out, HB6.out⟩
      | true =>
      have f7 := HX6.out.c4
      go_wp2_with fail
      refine (C7.out _).mono ?_
      rintro e w7 ⟨rfl, rfl⟩
      clear f7 C7
      have HX7 := HX6
      have HB7 := HB6
      cases b7 with
      | false =>
        go_wp2_with fail
        go_meet
        exact ⟨by rw [← HK.out]; simp, HX7.out, HB7.out⟩
      | true =>
      have f8 := HX7.out.c7
      go_wp2_with fail
      go_meet
      exact ⟨by rw [← HK.out]; simp, HX7.out, HB7.out⟩
  obtain ⟨rfl, HC⟩ := hcut
  have HX1 := hid HC.out.1
  have HB1 := hid HC.out.2
  clear HC HX HB0 f0 hw0 C1 C2 C3 C4 C5 C6 C7 E e8 HF4 H84 HK
  cases K with
  | false =>
    have HE := hid (HG.out rfl)
    go_wp2_with fail
    go_ret
    exact ⟨by rw [HE.out]; rfl, hB ▸ HB1.out⟩
  | true =>
  obtain ⟨hW, hn4⟩ := HT.out rfl
  have HW := hid hW
  clear HG HT hW
  have CN := hid (fun (i : Nat) (h : i < L.length) wx => c_spec_l14Word L[i].name wx (HZ.out _ (List.getElem_mem h)).1)
  have CP := hid (fun (i : Nat) (h : i < L.length) wx => c_spec_PlainOk L[i].value wx (by have := (HZ.out _ (List.getElem_mem h)).2; unfold maxLen; omega))
  go_wp2_with fail
  go_loopw [3] (fun v wr => ∃ i : Nat, v = .int .i64 (i : Int) ∧ i ≤ n ∧ Hid (FactsP L i) ∧ Hid (ClBox wr B c (.slice a n cap)) ∧ Hid (Below w.heap.size w wr)) (fun v _ => n - (intOf v).toNat)
  case atStart => exact ⟨0, rfl, Nat.zero_le _, factsP_zero L, HX1.out, HB1.out⟩
  case round =>
    clear HB1 HX1
    obtain ⟨i, rfl, hin, HP, HX, HB⟩ := hrel
    have f7 := HX.out.c7
    by_cases hlt : i < n
    · have his : i < L.length := by rw [HN.out]; exact hlt
      have hit : (i : Int) < (n : Int) := by omega
      obtain ⟨b, o, rfl, hb, c1, c2⟩ := HR.out.below HB.out i his
      have CN1 := hid (fun wx => CN.out i his wx)
      have CP1 := hid (fun wx => CP.out i his wx)
      have HBAD : Hid (wordB L[i].name = false ∨ fvalB L[i].value = false ∨ (∃ k, ∃ hk : k < L.length, k < i ∧ L[k].name = L[i].name) → FB = false) := fun h => by
        rw [← HFB.out]
        refine factsB_f his (fun hP => ?_)
        rcases h with h | h | ⟨k, hk, hki, h⟩
        · rw [hP.1] at h; cases h
        · rw [hP.2.1] at h; cases h
        · exact hP.2.2 k hki h
      have HGO : Hid (wordB L[i].name = true → fvalB L[i].value = true → (∀ k, ∀ hk : k < L.length, k < i → ¬ L[k].name = L[i].name) → FactsP L (i + 1)) := fun h1 h2 h3 => factsP_next HP.out his ⟨h1, h2, fun k hk => h3 k _ hk⟩
      have hsz : L[i].value.size ≤ 1048576 := (HZ.out _ (List.getElem_mem his)).2
      obtain ⟨nm, hnm⟩ : ∃ nm, L[i].name = nm := ⟨_, rfl⟩
      have HNMI := hid (fun (h : i < L.length) => show L[i].name = nm from hnm)
      rw [hnm] at c1 CN1 HBAD HGO
      clear hnm
      generalize L[i].value = vl at *
      clear his
      have HCx := hid (fun wx (h : Below wr.heap.size wr wx) => And.intro ((h.cell (p := ⟨b, o + i * 2, none⟩) hb).trans c1) ((h.cell (p := ⟨b, o + i * 2 + 1, none⟩) hb).trans c2))
      obtain ⟨Q, hQ⟩ : ∃ Q, (wordB nm && fvalB vl) = Q := ⟨_, rfl⟩
      have HQ := hid hQ
      clear hQ
      go_upto_region 7 with fail
      go_cut [101] from 70 to 101 (fun v wv => v = .bool (!Q) ∧ Hid (Below wr.heap.size wr wv))
      case first =>
        have HFV1 := hid (fun m => @fval_is vl m)
        have HFV2 := hid (@fval_no vl)
        cases hwd : wordB nm with
        | false =>
          rw [hwd] at CN1 HQ
          go_wp2_with fail
          refine (CN1.out _).mono ?_
          rintro e w1 ⟨rfl, hb1⟩
          have HB1 := hid hb1
          clear hb1
          go_wp2_with fail
          go_meet
          exact ⟨by rw [← HQ.out]; rfl, HB1.out⟩
        | true =>
        rw [hwd] at CN1 HQ
        clear hwd
        go_wp2_with fail
        refine (CN1.out _).mono ?_
        rintro e w1 ⟨rfl, hb1⟩
        have HB1 := hid hb1
        clear hb1 CN1
        have CI := hid (fun wx => cIn (vl.size : Int) 1 30 wx)
        by_cases h30 : 1 ≤ vl.size ∧ vl.size ≤ 30
        · rw [decide_eq_true (show (1 : Int) ≤ (vl.size : Int) ∧ (vl.size : Int) ≤ 30 by omega)] at CI
          obtain ⟨m, hm⟩ : ∃ m, vl.size = m + 1 := ⟨vl.size - 1, by omega⟩
          have hml : m < vl.size := by omega
          have h0l : 0 < vl.size := by omega
          rw [HFV1.out m hm h30.2 h0l hml] at HQ
          have hms : (vl.size : Int) - 1 = (m : Int) := by omega
          have r0 : ((vl[0]'h0l).toNat : Int) ≤ 255 := by have := (vl[0]'h0l).toNat_lt; omega
          have r1 : ((vl[m]'hml).toNat : Int) ≤ 255 := by have := (vl[m]'hml).toNat_lt; omega
          have CB0 := hid (fun wx => c_spec_l14Blank ((vl[0]'h0l).toNat : Int) wx (by omega) r0)
          have CB1 := hid (fun wx => c_spec_l14Blank ((vl[m]'hml).toNat : Int) wx (by omega) r1)
          clear HFV1 HFV2 h30 r0 r1 hm
          generalize plainL vl.data.toList = p1 at *
          obtain ⟨g0, hg0⟩ : ∃ g0, gapB ((vl[0]'h0l).toNat : Int) = g0 := ⟨_, rfl⟩
          obtain ⟨g1, hg1⟩ : ∃ g1, gapB ((vl[m]'hml).toNat : Int) = g1 := ⟨_, rfl⟩
          rw [hg0] at CB0 HQ
          rw [hg1] at CB1 HQ
          clear hg0 hg1
          go_wp2_with fail
          refine (CP1.out _).mono ?_
          rintro e w2 ⟨rfl, rfl⟩
          cases p1 with
          | false =>
            go_wp2_with fail
            go_meet
            exact ⟨by rw [← HQ.out]; simp, HB1.out⟩
          | true =>
          go_wp2_with fail
          refine (CI.out _).mono ?_
          rintro e w2 ⟨rfl, rfl⟩
          go_wp2_with fail
          refine (CB0.out _).mono ?_
          rintro e w2 ⟨rfl, rfl⟩
          cases g0 with
          | true =>
            go_wp2_with fail
            go_meet
            exact ⟨by rw [← HQ.out]; simp, HB1.out⟩
          | false =>
          go_wp2_with fail
          refine (CB1.out _).mono ?_
          rintro e w2 ⟨rfl, rfl⟩
          go_wp2_with fail
          go_meet
          exact ⟨by rw [← HQ.out]; simp, HB1.out⟩
        · rw [HFV2.out h30] at HQ
          rw [decide_eq_false (show ¬ ((1 : Int) ≤ (vl.size : Int) ∧ (vl.size : Int) ≤ 30) by omega)] at CI
          clear HFV1 HFV2 h30
          generalize plainL vl.data.toList = p1 at *
          go_wp2_with fail
          refine (CP1.out _).mono ?_
          rintro e w2 ⟨rfl, rfl⟩
          cases p1 with
          | false =>
            go_wp2_with fail
            go_meet
            exact ⟨by rw [← HQ.out]; simp, HB1.out⟩
          | true =>
          go_wp2_with fail
          refine (CI.out _).mono ?_
          rintro e w2 ⟨rfl, rfl⟩
          go_wp2_with fail
          go_meet
          exact ⟨by rw [← HQ.out]; simp, HB1.out⟩
      case rest =>
        obtain ⟨rfl, HC⟩ := hcut
        have HX2 := hid (HX.out.below HC.out)
        have HB2 := hid (bb HB.out HC.out)
        have f9 := HX2.out.c7
        obtain ⟨d1, d2⟩ := HCx.out _ HC.out
        have hwb : b < wc.heap.size := Nat.lt_of_lt_of_le hb HC.out.size
        clear HC HCx CN1 CP1 c1 c2 f7 HX HB
        cases Q with
        | false =>
          have HE := hid (show FB = false from HBAD.out (by
            have h := HQ.out
            rw [Bool.and_eq_false_iff] at h
            rcases h with h | h
            · exact .inl h
            · exact .inr (.inl h)))
          go_wp2_with fail
          go_ret
          exact ⟨by rw [HW.out, HE.out]; rfl, hB ▸ HB2.out⟩
        | true =>
        have HQ2 := hid (Bool.and_eq_true_iff.1 HQ.out)
        clear HQ
        go_wp2_with fail
        have HY := hid hwb
        clear d1 d2 hwb f9
        obtain ⟨wo, hwo⟩ : ∃ W, W = wc := ⟨_, rfl⟩
        subst hwo
        go_loopw [5] (fun v5 wy => ∃ q : Nat, v5 = .int .i64 (q : Int) ∧ q ≤ i ∧ Hid (∀ k, ∀ hk : k < L.length, k < q → ¬ L[k].name = nm) ∧ Hid (Below wo.heap.size wo wy)) (fun v5 _ => i - (intOf v5).toNat)
        case atStart => exact ⟨0, rfl, Nat.zero_le _, fun k _ h => absurd h (Nat.not_lt_zero _), Below.refl _ _⟩
        case round =>
          obtain ⟨q, rfl, hq, HNM, HBy⟩ := hrel
          have HX3 := hid (HX2.out.below HBy.out)
          have HB3 := hid (bb HB2.out HBy.out)
          by_cases hqi : q < i
          · have hqs : q < L.length := by rw [HN.out]; omega
            have his : i < L.length := by rw [HN.out]; omega
            have hqn : (q : Int) < (i : Int) := by omega
            have hq2 : (q : Int) < (n : Int) := by omega
            obtain ⟨b', o', e', hb', k1, k2⟩ := HR.out.below HB3.out q hqs
            cases e'
            obtain ⟨b', o', e', hb', d1, d2⟩ := HR.out.below HB3.out i his
            cases e'
            rw [HNMI.out his] at d1
            have f9 := HX3.out.c7
            have hzz := str_beq L[q].name nm
            by_cases hd : L[q].name = nm
            · have HE := hid (show FB = false from HBAD.out (.inr (.inr ⟨q, hqs, hqi, hd⟩)))
              rw [decide_eq_true hd] at hzz
              generalize L[q].name = x at *
              clear hd his d2 k2
              go_wp2_with fail
              go_quiet (fail)
              go_wp2_with fail
              go_ret
              exact ⟨by rw [HW.out, HE.out]; rfl, hB ▸ below_drewN HB3.out _⟩
            · have HN2 := hid (show ∀ k, ∀ hk : k < L.length, k < q + 1 → ¬ L[k].name = nm from fun k hk h => by
                rcases Nat.lt_or_eq_of_le (Nat.le_of_lt_succ h) with h' | rfl
                · exact HNM.out k hk h'
                · exact hd)
              rw [decide_eq_false hd] at hzz
              generalize L[q].name = x at *
              clear hd his d2 k2
              go_wp2_with fail
              go_quiet (fail)
              go_wp2_with fail
              go_roundw
              case rel => exact ⟨q + 1, by go_num, by omega, HN2.out, below_drewN HBy.out _⟩
              case measure => simp [intOf]; omega
          · have hqe : q = i := by omega
            subst hqe
            have HF1 := hid (HGO.out HQ2.out.1 HQ2.out.2 HNM.out)
            go_wp2_with fail
            go_roundw
            case rel => exact ⟨q + 1, by go_num, by omega, HF1.out, HX3.out, HB3.out⟩
            case measure => simp [intOf]; omega
    · have hie : i = n := by omega
      subst hie
      have HE := hid (show FB = true from by rw [← HFB.out]; exact factsB_t (by rw [HN.out]; exact hn4) (by rw [HN.out]; exact HP.out))
      go_wp2_with fail
      go_ret
      exact ⟨by rw [HW.out, HE.out]; rfl, hB ▸ HB.out⟩

end Go.Proofs.YtcjeodgfpnecgaaGreatDoor
