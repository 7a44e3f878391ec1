/- The law on terms: whatever is drawn, it answers true. -/
import Derived.Test.YtebngmnfkjmaiaaMDraw
namespace Go.Proofs.Ytebngmnfkjmaiaa
open Go.RowKit
set_option linter.unusedVariables false
set_option linter.unusedSimpArgs false

set_option maxHeartbeats 8000000 in
theorem law_terms (a : Option Addr) (len cap : Nat) (w : World) (hcr : CodeRow w a len) :
    Calls Try.prog 3 #[.slice a len cap] w fun e w' => e = .returned (.bool true) ∧ Below w.heap.size w w' := by
  have HR := hidM hcr
  clear hcr
  by_cases hbig : len ≤ 4096
  · go_enter Try.func3, Try.ntmps3
    go_wp2_with fail
    refine (cBig_no a len cap _ hbig).mono ?_
    rintro e0 w' ⟨rfl, rfl⟩
    go_wp2_with fail
    refine (cDrawWithin a len cap _ hbig HR.out).mono ?_
    rintro e0 w1 ⟨x, y, n, s, rfl, hb1⟩
    have HB1 := hidM hb1
    clear hb1
    have WI := fun w => cWithinI x y n s w
    have WS := fun w => cWithinS x y n s w
    have PI := fun w => cPastI y n s w
    have PS := fun w => cPastS y n s w
    have DI := fun w => cWidenedI x y s w
    have DS := fun w => cWidenedS x y s w
    have MI := hidM (fun w => cWithinI x y n (s + 1) w)
    have f1 := hidM (wit_past x y n s)
    have f2 := hidM (wit_more x y n s)
    have f3 := hidM (wid_neg x y n s)
    have f4 := hidM (wid_pos x y n s)
    have f5 := hidM (wit_sk x y n s)
    generalize witB x y n s = W at *
    generalize pasB y n s = P at *
    generalize widA x y s = xa at *
    generalize widB x y s = xb at *
    generalize witB x y n (s + 1) = W' at *
    go_wp2_with fail
    refine (WI _).mono ?_
    rintro e0 w2 ⟨rfl, hb2⟩
    have HB2 := hidM (bt HB1.out hb2)
    clear hb2
    go_wp2_with fail
    refine (PI _).mono ?_
    rintro e0 w3 ⟨rfl, hb3⟩
    have HB3 := hidM (bt HB2.out hb3)
    clear hb3
    go_wp2_with fail
    refine (DI _).mono ?_
    rintro e0 w4 ⟨rfl, hb4⟩
    have HB4 := hidM (bt HB3.out hb4)
    clear hb4
    go_wp2_with fail
    refine (cDrawPast a len cap _ hbig (code_below HR.out HB4.out)).mono ?_
    rintro e0 w5 ⟨q, r, t, rfl, hb5⟩
    have HB5 := hidM (bt HB4.out hb5)
    clear hb5 WI PI DI
    have QI := fun w => cPastI q r t w
    have QS := fun w => cPastS q r t w
    generalize pasB q r t = Z at *
    go_wp2_with fail
    refine (DS _).mono ?_
    rintro e0 w6 ⟨rfl, rfl⟩
    go_wp2_with fail
    refine (WS _).mono ?_
    rintro e0 w6 ⟨rfl, rfl⟩
    go_wp2_with fail
    refine (PS _).mono ?_
    rintro e0 w6 ⟨rfl, rfl⟩
    go_wp2_with fail
    refine (QI _).mono ?_
    rintro e0 w6 ⟨rfl, hb6⟩
    have HB6 := hidM (bt HB5.out hb6)
    clear hb6
    go_wp2_with fail
    refine (QS _).mono ?_
    rintro e0 w7 ⟨rfl, rfl⟩
    clear DS WS PS QI QS
    cases W
    · by_cases hx : xa < 0
      · have d1 : decide (xa < 0) = true := decide_eq_true hx
        have d2 : (xb == -1) = true := by rw [(f3.out hx).1]; rfl
        go_wp2_with fail
        go_ret
        exact ⟨rfl, HB6.out⟩
      · have d1 : decide (xa < 0) = false := decide_eq_false hx
        have d2 : decide (xa ≤ x) = true := decide_eq_true (f4.out (by omega)).1
        have d3 : decide (y ≤ xb) = true := decide_eq_true (f4.out (by omega)).2.1
        clear hx
        go_wp2_with fail
        go_ret
        exact ⟨rfl, HB6.out⟩
    · obtain rfl := f1.out rfl
      have hs := f5.out rfl
      have hxn : ¬ xa < 0 := fun h => by have := (f3.out h).2; simp at this
      have d1 : decide (xa < 0) = false := decide_eq_false hxn
      have d2 : decide (xa ≤ x) = true := decide_eq_true (f4.out (by omega)).1
      have d3 : decide (y ≤ xb) = true := decide_eq_true (f4.out (by omega)).2.1
      have d4 : decide (xa ≤ n) = true := decide_eq_true ((f4.out (by omega)).2.2 rfl).1
      have d5 : decide (n < xb) = true := decide_eq_true ((f4.out (by omega)).2.2 rfl).2
      have hw : IntKind.i64.wrap (s + 1) = s + 1 := IntWalk.i64_in _ (by omega)
      clear hxn
      by_cases h9 : s < 86400
      · obtain rfl := f2.out rfl h9
        have d6 : decide (s < 86400) = true := decide_eq_true h9
        clear hs h9
        go_wp2_with fail
        refine (MI.out _).mono ?_
        rintro e0 w8 ⟨rfl, hb8⟩
        have HB8 := hidM (bt HB6.out hb8)
        clear hb8
        go_wp2_with fail
        go_ret
        exact ⟨rfl, HB8.out⟩
      · have d6 : decide (s < 86400) = false := decide_eq_false h9
        clear hs h9
        go_wp2_with fail
        go_ret
        exact ⟨rfl, HB6.out⟩
  · go_enter Try.func3, Try.ntmps3
    go_wp2_with fail
    refine (cBig_yes a len cap _ hbig).mono ?_
    rintro e0 w' ⟨rfl, rfl⟩
    go_wp2_with fail
    go_ret
    exact ⟨rfl, Below.refl _ _⟩

end Go.Proofs.Ytebngmnfkjmaiaa
