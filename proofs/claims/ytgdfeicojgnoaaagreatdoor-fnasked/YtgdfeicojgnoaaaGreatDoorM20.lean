/- Contracts of Later, of the program and of the specification: one answer. -/
import Derived.Test.YtgdfeicojgnoaaaGreatDoorRows
import Derived.Test.YtgdfeicojgnoaaaGreatDoorM3
import Derived.WalkKit
namespace Go.Proofs.YtgdfeicojgnoaaaGreatDoor
open Go.RowKit
set_option linter.unusedVariables false
set_option linter.unusedSimpArgs false

def laterOf (t d : Int) : Int :=
  if (0 ≤ t ∧ t ≤ 3155759999) ∧ (-3155759999 ≤ d ∧ d ≤ 3155759999) then (if t + d < 0 then 0 else if 3155759999 < t + d then 3155759999 else t + d) else -1

theorem cMax (a b : Int) (w : World) :
    Calls Tryz.prog 112 #[.int .i64 a, .int .i64 b] w fun e w' => e = .returned (.int .i64 (if a > b then a else b)) ∧ w' = w := by
  by_cases h : a > b
  · go_enter Tryz.func112, Tryz.ntmps112
    go_wp2
    go_ret
    exact ⟨by first | rfl | simp [h], rfl⟩
  · go_enter Tryz.func112, Tryz.ntmps112
    go_wp2
    go_ret
    exact ⟨by first | rfl | simp [h], rfl⟩

theorem cMin (a b : Int) (w : World) :
    Calls Tryz.prog 113 #[.int .i64 a, .int .i64 b] w fun e w' => e = .returned (.int .i64 (if a < b then a else b)) ∧ w' = w := by
  by_cases h : a < b
  · go_enter Tryz.func113, Tryz.ntmps113
    go_wp2
    go_ret
    exact ⟨by first | rfl | simp [h], rfl⟩
  · go_enter Tryz.func113, Tryz.ntmps113
    go_wp2
    go_ret
    exact ⟨by first | rfl | simp [h], rfl⟩

theorem cL3Later (t d : Int) (w : World) (h0 : 0 ≤ t) (h1 : t ≤ 3155759999) (h2 : -3155759999 ≤ d) (h3 : d ≤ 3155759999) :
    Calls Tryz.prog 72 #[.int .i64 t, .int .i64 d] w fun e w' => e = .returned (.int .i64 (laterOf t d)) ∧ w' = w := by
  have hw : IntKind.i64.wrap (t + d) = t + d := IntWalk.i64_in _ (by omega)
  have C := fun w => cMin 3155759999 (t + d) w
  obtain ⟨m, hm⟩ : ∃ m, m = (if 3155759999 < t + d then 3155759999 else t + d) := ⟨_, rfl⟩
  rw [← hm] at C
  have D := fun w => cMax 0 m w
  obtain ⟨n, hn⟩ : ∃ n, n = (if 0 > m then 0 else m) := ⟨_, rfl⟩
  rw [← hn] at D
  have HN : Hid (n = if 0 > m then 0 else m) := hn
  have HM : Hid (m = if 3155759999 < t + d then 3155759999 else t + d) := hm
  clear hm hn
  go_enter Tryz.func72, Tryz.ntmps72
  go_wp2_with fail
  refine (C _).mono ?_
  rintro e w' ⟨rfl, rfl⟩
  go_wp2_with fail
  refine (D _).mono ?_
  rintro e w' ⟨rfl, rfl⟩
  go_wp2_with fail
  go_ret
  refine ⟨?_, rfl⟩
  unfold laterOf
  rw [if_pos ⟨⟨h0, h1⟩, h2, h3⟩]
  refine congrArg (fun x => Ending.returned (Value.int .i64 x)) ?_
  rw [HN.out, HM.out]
  repeat' split
  all_goals omega

theorem cLaterI (t d : Int) (w : World) :
    Calls Tryz.prog 63 #[.int .i64 t, .int .i64 d] w fun e w' => e = .returned (.int .i64 (laterOf t d)) ∧ w' = w := by
  have C := fun w => cTimeI t w
  by_cases h : 0 ≤ t ∧ t ≤ 3155759999
  · rw [decide_eq_true h] at C
    by_cases h1 : d < -3155759999
    · have e : laterOf t d = -1 := if_neg (fun x => by omega)
      rw [e]
      go_enter Tryz.func63, Tryz.ntmps63
      go_wp2_with fail
      refine (C _).mono ?_
      rintro e w' ⟨rfl, rfl⟩
      go_wp2_with fail
      go_ret
      exact ⟨rfl, rfl⟩
    · by_cases h2 : d > 3155759999
      · have e : laterOf t d = -1 := if_neg (fun x => by omega)
        rw [e]
        go_enter Tryz.func63, Tryz.ntmps63
        go_wp2_with fail
        refine (C _).mono ?_
        rintro e w' ⟨rfl, rfl⟩
        go_wp2_with fail
        go_ret
        exact ⟨rfl, rfl⟩
      · have hw : IntKind.i64.wrap (t + d) = t + d := IntWalk.i64_in _ (by omega)
        have e : laterOf t d = if t + d < 0 then 0 else if 3155759999 < t + d then 3155759999 else t + d := if_pos ⟨h, by omega, by omega⟩
        rw [e]
        clear e
        go_enter Tryz.func63, Tryz.ntmps63
        go_wp2_with fail
        refine (C _).mono ?_
        rintro e w' ⟨rfl, rfl⟩
        go_wp2_with fail
        all_goals go_ret
        all_goals exact ⟨by first | rfl | (congr 2; repeat' split
                                           all_goals omega), rfl⟩
  · have e : laterOf t d = -1 := if_neg (fun x => h x.1)
    rw [e]
    rw [decide_eq_false h] at C
    go_enter Tryz.func63, Tryz.ntmps63
    go_wp2_with fail
    refine (C _).mono ?_
    rintro e w' ⟨rfl, rfl⟩
    go_wp2_with fail
    go_ret
    exact ⟨rfl, rfl⟩

end Go.Proofs.YtgdfeicojgnoaaaGreatDoor
