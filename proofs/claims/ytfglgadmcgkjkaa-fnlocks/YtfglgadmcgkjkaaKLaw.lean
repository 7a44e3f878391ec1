/- The law on keys: whatever is drawn, it answers true. -/
import Derived.Test.YtfglgadmcgkjkaaKDrawC
import Derived.Test.YtfglgadmcgkjkaaPQuiet
import Derived.Laws.StructEq
import Derived.Deep.Cut
namespace Go.Proofs.Ytfglgadmcgkjkaa
open Go.RowKit
set_option linter.unusedVariables false
set_option linter.unusedSimpArgs false

theorem blk_below {w w1 : World} {B : Nat} {o : Obj} (h : w.heap[B]? = some o) (k : Below w.heap.size w w1) : w1.heap[B]? = some o := (k.block B (lt_of_heap h)).trans h

theorem blk_alloc {w : World} {B : Nat} {o : Obj} (h : w.heap[B]? = some o) (o' : Obj) : (w.alloc o').heap[B]? = some o := (Below.heap_alloc w o' B (lt_of_heap h)).trans h

theorem eqKeys (n e d : Int) (W : World) : (Op.equalIn 10000 27 (.agg #[.int .i64 n, .int .i64 e, .int .i64 d]) (.agg #[.int .i64 n, .int .i64 e, .int .i64 d])).run Try.prog W = .ok true W := by
  rw [run_equalIn_agg W 9999 27 _ _ (by kernel_rfl) (by kernel_rfl)]
  simp [Op.eqFields, go_sem]

theorem fieldN (n e d : Int) (W : World) : (Instr.field 27 (.agg #[.int .i64 n, .int .i64 e, .int .i64 d]) 0).run Try.prog W = .ok (.int .i64 n) W := by kernel_rfl

theorem calls_same {f : FuncId} {args : Array Value} {w : World} {v : Value} (h : Calls Try.prog f args w fun e w' => e = .returned v ∧ w' = w) :
    Calls Try.prog f args w fun e w' => e = .returned v ∧ Below w.heap.size w w' :=
  h.mono fun _ _ ⟨h1, h2⟩ => ⟨h1, by rw [h2]; exact Below.refl _ _⟩

theorem times_inv {a n X : Int} (h : IsI a n X) : timesI a X n = 1 := by
  obtain ⟨hr, h1, h2, h3⟩ := h
  rw [timesI_ok hr ⟨hr.1, by omega, h2⟩]
  have ha := hr.2.1
  have hn := hr.1.1
  obtain ⟨A, rfl⟩ : ∃ A : Nat, a = A := ⟨a.toNat, by omega⟩
  obtain ⟨Y, rfl⟩ : ∃ Y : Nat, X = Y := ⟨X.toNat, by omega⟩
  obtain ⟨N, rfl⟩ : ∃ N : Nat, n = N := ⟨n.toNat, by omega⟩
  simp only [Int.toNat_natCast]
  unfold timesOf
  rw [Int.mul_comm] at h3
  exact (Int.natCast_emod (A * Y) N).trans (by rw [Int.natCast_mul]; exact h3)

theorem cells_bw {W : World} {g : Nat} {x y z : Value} {T : TypeId} (h : W.heap[g]? = some (.cells #[x, y, z] T (0, 0))) :
    (∀ p : BW W, p.w.cell? ⟨g, 0, none⟩ = some x) ∧ (∀ p : BW W, p.w.cell? ⟨g, 1, none⟩ = some y) ∧ (∀ p : BW W, p.w.cell? ⟨g, 2, none⟩ = some z) :=
  ⟨fun p => (box3 (blk_below h p.h)).1.1, fun p => (box3 (blk_below h p.h)).1.2.1, fun p => (box3 (blk_below h p.h)).1.2.2⟩

set_option maxRecDepth 8000 in
set_option maxHeartbeats 8000000 in
theorem law_keys (a : Option Addr) (len cap : Nat) (w : World) (hcr : CodeB w a len) :
    Calls Try.prog 3 #[.slice a len cap] w fun e w' => e = .returned (.bool true) ∧ Below w.heap.size w w' := by
  have HR := hide5 hcr
  clear hcr
  by_cases hbig : len ≤ 4096
  · go_enter Try.func3, Try.ntmps3
    go_wp2_with fail
    refine (cBig_no a len cap _ hbig).mono ?_
    rintro e0 w' ⟨rfl, rfl⟩
    go_wp2_with fail
    refine (cDrawKeyOf a len cap _ hbig HR.out.row).mono ?_
    rintro e0 w1 ⟨p, q, e, rfl, hb1⟩
    have HB1 := hide5 hb1
    clear hb1
    have K1 := fun w => cKeyOfI p q e w
    have K2 := fun w => cKeyOfS p q e w
    obtain ⟨N, hN⟩ : ∃ N, kfN p q e = N := ⟨_, rfl⟩
    obtain ⟨E, hE⟩ : ∃ E, kfE p q e = E := ⟨_, rfl⟩
    obtain ⟨D, hD⟩ : ∃ D, kfD p q e = D := ⟨_, rfl⟩
    obtain ⟨B, hB⟩ : ∃ B, kfB p q e = B := ⟨_, rfl⟩
    rw [hN, hE, hD, hB] at K1 K2
    have HX := hide5 (And.intro hN (And.intro hE (And.intro hD hB)))
    clear hN hE hD hB
    go_wp2_with fail
    refine (K1 _).mono ?_
    rintro e0 w2 ⟨rfl, hb2⟩
    have HB2 := hide5 ((bb HB1.out hb2).alloc (bb HB1.out hb2).size (.cells #[.int .i64 N, .int .i64 E, .int .i64 D] 27))
    have M6 := hide5 (heap_alloc_new w2 (.cells #[.int .i64 N, .int .i64 E, .int .i64 D] 27))
    obtain ⟨W2, hW2⟩ : ∃ W, w2.alloc (.cells #[.int .i64 N, .int .i64 E, .int .i64 D] 27) = W := ⟨_, rfl⟩
    rw [hW2] at HB2 M6
    clear hb2 HB1 K1
    go_wp2_with fail
    refine (cDrawPublic a len cap _ hbig (HR.out.below HB2.out).row).mono ?_
    rintro e0 w3 ⟨n, o, d, rfl, _, hb3⟩
    have HB3 := hide5 ((bb HB2.out hb3).alloc (bb HB2.out hb3).size (.cells #[.int .i64 n, .int .i64 o, .int .i64 d] 27))
    have M8 := hide5 (heap_alloc_new w3 (.cells #[.int .i64 n, .int .i64 o, .int .i64 d] 27))
    have M6b := hide5 (blk_alloc (blk_below M6.out hb3) (.cells #[.int .i64 n, .int .i64 o, .int .i64 d] 27))
    have l62 : w2.heap.size < w3.heap.size := lt_of_heap (blk_below M6.out hb3)
    obtain ⟨W3, hW3⟩ : ∃ W, w3.alloc (.cells #[.int .i64 n, .int .i64 o, .int .i64 d] 27) = W := ⟨_, rfl⟩
    rw [hW3] at HB3 M8 M6b
    obtain ⟨⟨k0, k1, k2⟩, _⟩ := box3 M8.out
    have P1 := fun w => cPublicI n o d w
    have P2 := fun w => cPublicS n o d w
    have O1 := fun w => cKeyOkI n o d w
    have O2 := fun w => cKeyOkS n o d w
    have O3 := fun w => cKeyOkI (pubN n o) (pubE n o) 0 w
    have L1 := fun w => cLockedI (pubN n o) (pubE n o) 0 5 w (by decide)
    obtain ⟨u, hu⟩ : ∃ u, pubN n o = u := ⟨_, rfl⟩
    obtain ⟨v, hv⟩ : ∃ v, pubE n o = v := ⟨_, rfl⟩
    obtain ⟨C, hC⟩ : ∃ C, okB n o d = C := ⟨_, rfl⟩
    have HU := hide5 (And.intro hu hv)
    rw [hu, hv] at P1 P2 O3 L1
    rw [hC] at O1 O2
    clear hb3 HB2 hW2 M6 hu hv hC
    go_wp2_with fail
    refine (P1 _).mono ?_
    rintro e0 w4 ⟨rfl, hb4⟩
    have HB4 := hide5 ((bb HB3.out hb4).alloc (bb HB3.out hb4).size (.cells #[.int .i64 u, .int .i64 v, .int .i64 0] 27))
    have M9 := hide5 (heap_alloc_new w4 (.cells #[.int .i64 u, .int .i64 v, .int .i64 0] 27))
    have M6 := hide5 (blk_alloc (blk_below M6b.out hb4) (.cells #[.int .i64 u, .int .i64 v, .int .i64 0] 27))
    have M8b := hide5 (blk_alloc (blk_below M8.out hb4) (.cells #[.int .i64 u, .int .i64 v, .int .i64 0] 27))
    clear hb4 HB3 hW3 M8 M6b P1 k0 k1 k2
    go_wp2_with fail
    refine (K2 _).mono ?_
    rintro e0 w5 ⟨rfl, hb5⟩
    have HB5 := hide5 ((bb HB4.out hb5).alloc (bb HB4.out hb5).size (.cells #[.int .i64 N, .int .i64 E, .int .i64 D] 27))
    have M10 := hide5 (heap_alloc_new w5 (.cells #[.int .i64 N, .int .i64 E, .int .i64 D] 27))
    have M6b := hide5 (blk_alloc (blk_below M6.out hb5) (.cells #[.int .i64 N, .int .i64 E, .int .i64 D] 27))
    have M8 := hide5 (blk_alloc (blk_below M8b.out hb5) (.cells #[.int .i64 N, .int .i64 E, .int .i64 D] 27))
    have M9b := hide5 (blk_alloc (blk_below M9.out hb5) (.cells #[.int .i64 N, .int .i64 E, .int .i64 D] 27))
    obtain ⟨W5, hW5⟩ : ∃ W, w5.alloc (.cells #[.int .i64 N, .int .i64 E, .int .i64 D] 27) = W := ⟨_, rfl⟩
    rw [hW5] at HB5 M10 M6b M8 M9b
    clear hb5 HB4 M9 M6 M8b K2
    have HNB := hide5 (bw_any W5)
    obtain ⟨c60, c61, c62⟩ := cells_bw M6b.out
    obtain ⟨c80, c81, c82⟩ := cells_bw M8.out
    obtain ⟨c90, c91, c92⟩ := cells_bw M9b.out
    obtain ⟨c100, c101, c102⟩ := cells_bw M10.out
    have q1 := eqKeys N E D
    have q2 := eqKeys u v 0
    have hBB : (B != B) = false := by cases B <;> rfl
    have hCC : (C != C) = false := by cases C <;> rfl
    go_wp2_with fail
    haveI := HNB.out
    refine wp_region_below (by kernel_rfl) (by kernel_rfl) (Below.refl W5.heap.size W5) ?_
    repeat (go_big_quiet_step ((first | (go_at_call 15; exact calls_bw _ (P2 _)) | (go_at_call 16; exact calls_bw _ (O1 _)) | (go_at_call 17; exact calls_bw _ (O2 _)))))
    refine wpQuiet_nil ?_
    intro _ hw'
    obtain ⟨⟨wq, hwq⟩, hw''⟩ := hw'
    have HBq := hide5 hwq
    subst hw''
    clear this HNB c60 c61 c62 c80 c81 c82 c90 c91 c92 c100 c101 c102 q1 q2 hBB hCC O1 O2 P2 hW5
    obtain ⟨⟨k0, k1, k2⟩, _⟩ := box3 (blk_below M9b.out HBq.out)
    go_upto_region 10 with fail
    go_cut [76] from 59 (fun c wv => c = .bool false ∧ Below W5.heap.size W5 wv)
    case first =>
      by_cases ho : opB n o = true
      · have h' : (2147483648 ≤ n ∧ n ≤ 3000000000) ∧ 3 ≤ o ∧ o < n := of_decide_eq_true ho
        have eu : n = u := by rw [← HU.out.1]; unfold pubN; rw [if_pos ho]
        have ev : o = v := by rw [← HU.out.2]; unfold pubE; rw [if_pos ho]
        clear HU
        subst eu
        subst ev
        have hd : decide (0 < n) = true := decide_eq_true (by omega)
        rw [show okB n o 0 = true from dec_t ⟨h', .inl rfl⟩] at O3
        rw [show lockI n o 0 5 = -1 by unfold lockI; rw [lk_ok]; simp] at L1
        clear HX h' ho
        go_wp2_with fail
        refine (O3 _).mono ?_
        rintro e0 w6 ⟨rfl, hb6⟩
        obtain ⟨⟨j0, j1, j2⟩, _⟩ := box3 (blk_below (blk_below M9b.out HBq.out) hb6)
        have HB6 := hide5 (bb HBq.out hb6)
        go_wp2_with fail
        refine (L1 _).mono ?_
        rintro e0 w7 ⟨rfl, hb7⟩
        have HB7 := hide5 (bb HB6.out hb7)
        go_wp2_with fail
        go_meet
        exact ⟨rfl, HB7.out⟩
      · have eu : u = 0 := by rw [← HU.out.1]; unfold pubN; rw [if_neg ho]
        subst eu
        clear HU HX ho L1 O3
        go_wp2_with fail
        go_meet
        exact ⟨rfl, HBq.out⟩
    case rest =>
      obtain ⟨rfl, hbc⟩ := hcut
      have HBc := hide5 hbc
      have HB7 := hide5 (bb HB5.out hbc)
      have M6c := hide5 (blk_below M6b.out hbc)
      clear hbc HBq k0 k1 k2 HU M9b M8 M10 L1 O3
      obtain ⟨⟨k0, k1, k2⟩, _⟩ := box3 M6c.out
      by_cases hk : kfP p q e
      · obtain ⟨x4, x1, x2, x3⟩ := kf_yes hk
        obtain ⟨y1, y2, y3, y4⟩ := HX.out
        have z1 : N = p * q := y1.symm.trans x1
        have z2 : E = e := y2.symm.trans x2
        have z3 : D = invI e ((p - 1) * (q - 1)) := y3.symm.trans x3
        have z4 : B = true := y4.symm.trans x4
        obtain ⟨F, hF⟩ : ∃ F, (p - 1) * (q - 1) = F := ⟨_, rfl⟩
        have hlk : lkB N E D = true := by rw [z1, z2, z3]; exact (lk_kf hk.1 hk.2.1).2 hk
        have hlk' : ((2147483648 ≤ N ∧ N ≤ 3000000000) ∧ 3 ≤ E ∧ E < N) ∧ 3 ≤ D ∧ D < N := of_decide_eq_true hlk
        have hok : okB N E D = true := dec_t ⟨hlk'.1, .inr hlk'.2⟩
        have hop : opB N E = true := dec_t hlk'.1
        have hpn : pubN N E = N := by unfold pubN; rw [if_pos hop]
        have hI : IsI e F D := by
          rw [z3, hF]
          refine invI_is ?_
          have := hk.2.2.2
          rw [hF] at this
          omega
        have hT := times_inv hI
        have h1 := hk.1.1.2.1
        have h2 := hk.1.2.1
        have hpq := prod_in h1 h2
        have hphi := phi_is p q
        have he := hk.2.1
        have w1 : wrap64 (p * q) = N := (IntWalk.wrap64_in _ (by omega)).trans z1.symm
        have w2 : IntKind.i64.wrap (p * q) = N := (IntWalk.i64_in _ (by omega)).trans z1.symm
        have w3 : wrap64 ((p - 1) * (q - 1)) = F := (IntWalk.wrap64_in _ (by omega)).trans hF
        have w4 : IntKind.i64.wrap ((p - 1) * (q - 1)) = F := (IntWalk.i64_in _ (by omega)).trans hF
        have w5 : wrap64 (p - 1) = p - 1 := IntWalk.wrap64_in _ (by omega)
        have w6 : wrap64 (q - 1) = q - 1 := IntWalk.wrap64_in _ (by omega)
        have w7 : IntKind.i64.wrap (p - 1) = p - 1 := IntWalk.i64_in _ (by omega)
        have w8 : IntKind.i64.wrap (q - 1) = q - 1 := IntWalk.i64_in _ (by omega)
        have hF0 : ¬ F = 0 := by have := hI.1.1.1; omega
        have t1 : E.tmod F = E := by rw [z2]; exact Int.tmod_eq_of_lt hI.1.2.1 hI.1.2.2
        have t2 : E % F = E := by rw [z2]; exact Int.emod_eq_of_lt hI.1.2.1 hI.1.2.2
        have w9 : wrap64 E = E := IntWalk.wrap64_in _ (by omega)
        have KK := fun w => cKeyOkI N E D w
        rw [hok] at KK
        have PP := fun w => cPublicI N E D w
        rw [hpn] at PP
        obtain ⟨V, hV⟩ : ∃ V, pubE N E = V := ⟨_, rfl⟩
        rw [hV] at PP
        have TT := fun w => cTimesS E D F w
        rw [show timesI E D F = 1 by rw [z2]; exact hT] at TT
        have hEe : (E == e) = true := by rw [z2]; simp
        subst z4
        have HNB := hide5 (bw_any wc)
        obtain ⟨c60, c61, c62⟩ := cells_bw M6c.out
        have hfl := fieldN N V 0
        have TT' := fun (w : World) => calls_same (TT w)
        clear x1 x2 x3 x4 y1 y2 y3 y4 HX hk z1 z2 z3 hF hlk hlk' hok hop hpn hI hT hpq hphi he k0 k1 k2 hV TT
        go_wp2_with fail
        haveI := HNB.out
        refine wp_region_below (by kernel_rfl) (by kernel_rfl) (Below.refl wc.heap.size wc) ?_
        repeat (go_big_quiet_step ((first | (go_at_call 16; exact calls_bw _ (KK _)) | (go_at_call 13; exact calls_bw _ (PP _)) | (go_at_call 19; exact calls_bw _ (TT' _)))))
        refine wpQuiet_nil ?_
        intro _ hw'
        obtain ⟨⟨wq2, hwq2⟩, hw''⟩ := hw'
        have HBq2 := hide5 (bb HB7.out hwq2)
        subst hw''
        go_wp2_with fail
        go_ret
        exact ⟨rfl, HBq2.out⟩
      · obtain ⟨x4, x1, x2, x3⟩ := kf_no hk
        obtain ⟨y1, y2, y3, y4⟩ := HX.out
        have z1 : N = 0 := y1.symm.trans x1
        have z2 : E = 0 := y2.symm.trans x2
        have z3 : D = 0 := y3.symm.trans x3
        have z4 : B = false := y4.symm.trans x4
        subst z1 z2 z3 z4
        have q1 := eqKeys 0 0 0
        clear x1 x2 x3 x4 y1 y2 y3 y4 HX hk
        go_wp2_with fail
        go_ret
        exact ⟨rfl, HB7.out⟩
  · go_enter Try.func3, Try.ntmps3
    go_wp2_with fail
    refine (cBig_yes a len cap _ hbig).mono ?_
    rintro e0 w' ⟨rfl, rfl⟩
    go_wp2_with fail
    go_ret
    exact ⟨rfl, Below.refl _ _⟩

end Go.Proofs.Ytfglgadmcgkjkaa
