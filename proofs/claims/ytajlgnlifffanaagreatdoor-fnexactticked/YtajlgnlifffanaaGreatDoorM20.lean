/- What is swept, as mathematics. Contracts of Later, of the program and of the specification: one answer. -/
import Derived.Test.YtajlgnlifffanaaGreatDoorM19
import Derived.Test.YtajlgnlifffanaaGreatDoorRows
import Derived.Test.YtajlgnlifffanaaGreatDoorM5
import Derived.WalkKit
namespace Go.Proofs.YtajlgnlifffanaaGreatDoor
set_option linter.unusedVariables false

theorem sweep_up {l : List Ro} (h : Up l) (now : Int) : Up (sweepR l now) :=
  ⟨fun x hx => h.1 x ((List.mem_filter.1 hx).1), h.2.sublist List.filter_sublist⟩

/-- Rows whose ids rise are told by what they hold. -/
theorem up_eq {l m : List Ro} (hl : l.Pairwise (fun x y => u_ltB x.id y.id = true)) (hm : m.Pairwise (fun x y => u_ltB x.id y.id = true)) (hp : l.Perm m) : l = m := by
  refine hp.eq_of_pairwise (fun a b _ _ h1 h2 => ?_) hl hm
  have := u_ltB_trans h1 h2
  rw [u_ltB_irr] at this
  cases this

theorem swept_ok {t : Tb} {now : Int} (h : (tableB t && utmB now) = true) : tableB (sweptT t now) = true := by
  have e : sweptT t now = ⟨t.most, sweepR t.rows now⟩ := if_pos h
  simp only [Bool.and_eq_true] at h
  obtain ⟨m1, m2, m3⟩ := tableB_p h.1
  rw [e]
  refine tableB_mk m1 ?_ (of_up (sweep_up (up_of m3) now))
  have : (sweepR t.rows now).length ≤ t.rows.length := List.length_filter_le _ _
  show ((sweepR t.rows now).length : Int) ≤ t.most
  omega

/-- Of what was held that is still held which is of use. -/
theorem swept_holds {t : Tb} {now : Int} (h : (tableB t && utmB now) = true) (i : Nat) (hi : i < t.rows.length) : holdsT (sweptT t now) t.rows[i].id = decide (now < t.rows[i].til) := by
  have hb := swept_ok h
  have e : sweptT t now = ⟨t.most, sweepR t.rows now⟩ := if_pos h
  simp only [Bool.and_eq_true] at h
  obtain ⟨m1, m2, m3⟩ := tableB_p h.1
  cases hd : decide (now < t.rows[i].til) with
  | true =>
    refine (holds_iff hb _).2 ⟨t.rows[i], ?_, rfl⟩
    rw [e]
    exact List.mem_filter.2 ⟨List.getElem_mem hi, hd⟩
  | false =>
    cases hh : holdsT (sweptT t now) t.rows[i].id with
    | false => rfl
    | true =>
      obtain ⟨x, hx, hxe⟩ := (holds_iff hb _).1 hh
      rw [e] at hx
      obtain ⟨h1, h2⟩ := List.mem_filter.1 hx
      obtain ⟨j, hj, rfl⟩ := List.getElem_of_mem h1
      have hij : j = i := by
        rcases Nat.lt_trichotomy j i with q | q | q
        · have := rise m3 hi q hi
          rw [hxe, u_ltB_irr] at this
          cases this
        · exact q
        · have := rise m3 hj q hj
          rw [hxe, u_ltB_irr] at this
          cases this
      subst hij
      rw [hd] at h2
      cases h2

theorem sweep_later (l : List Ro) {now later : Int} (h : now ≤ later) : sweepR (sweepR l now) later = sweepR l later := by
  unfold sweepR
  rw [List.filter_filter]
  refine List.filter_congr fun x _ => ?_
  by_cases h1 : later < x.til
  · have h2 : now < x.til := by omega
    simp [h1, h2]
  · simp [h1]

theorem swept_later {t : Tb} {now later : Int} (h : (tableB t && utmB now) = true) (hl : now ≤ later) : sweptT (sweptT t now) later = sweptT t later := by
  have hb := swept_ok h
  have e : sweptT t now = ⟨t.most, sweepR t.rows now⟩ := if_pos h
  simp only [Bool.and_eq_true] at h
  cases hu : utmB later with
  | false =>
    have e1 : sweptT t later = zeroT := if_neg (by rw [hu]; simp)
    have e2 : sweptT (sweptT t now) later = zeroT := if_neg (by rw [hu]; simp)
    rw [e1, e2]
  | true =>
    have e1 : sweptT t later = ⟨t.most, sweepR t.rows later⟩ := if_pos (by rw [hu, h.1]; rfl)
    have e2 : sweptT (sweptT t now) later = ⟨(sweptT t now).most, sweepR (sweptT t now).rows later⟩ := if_pos (by rw [hu, hb]; rfl)
    rw [e1, e2, e]
    show (⟨t.most, sweepR (sweepR t.rows now) later⟩ : Tb) = _
    rw [sweep_later _ hl]

/-- How many are kept of the first ones. -/
theorem sweep_count {l : List Ro} {i : Nat} {now : Int} (h : i < l.length) : (sweepR (l.take (i + 1)) now).length = (sweepR (l.take i) now).length + (if now < l[i].til then 1 else 0) := by
  unfold sweepR
  rw [List.take_add_one, List.getElem?_eq_getElem h, List.filter_append, List.length_append]
  congr 1
  show ([l[i]].filter _).length = _
  by_cases hc : now < l[i].til
  · rw [List.filter_cons_of_pos (by simpa using hc), if_pos hc]
    rfl
  · rw [List.filter_cons_of_neg (by simpa using hc), if_neg hc]
    rfl

end Go.Proofs.YtajlgnlifffanaaGreatDoor

namespace Go.Proofs.YtajlgnlifffanaaGreatDoor
open Go.RowKit
set_option linter.unusedVariables false
set_option linter.unusedSimpArgs false

def laterOf (t d : Int) : Int :=
  if (0 ≤ t ∧ t ≤ 3155759999) ∧ (-3155759999 ≤ d ∧ d ≤ 3155759999) then (if t + d < 0 then 0 else if 3155759999 < t + d then 3155759999 else t + d) else -1

theorem cMax (a b : Int) (w : World) :
    Calls Tryz.prog 112 #[.int .i64 a, .int .i64 b] w fun e w' => e = .returned (.int .i64 (if a > b then a else b)) ∧ w' = w := by
  by_cases h : a > b
  · go_enter Tryz.func112, Tryz.ntmps112
    go_wp2
    go_ret
    exact ⟨by first | rfl | simp [h], rfl⟩
  · go_enter Tryz.func112, Tryz.ntmps112
    go_wp2
    go_ret
    exact ⟨by first | rfl | simp [h], rfl⟩

theorem cMin (a b : Int) (w : World) :
    Calls Tryz.prog 113 #[.int .i64 a, .int .i64 b] w fun e w' => e = .returned (.int .i64 (if a < b then a else b)) ∧ w' = w := by
  by_cases h : a < b
  · go_enter Tryz.func113, Tryz.ntmps113
    go_wp2
    go_ret
    exact ⟨by first | rfl | simp [h], rfl⟩
  · go_enter Tryz.func113, Tryz.ntmps113
    go_wp2
    go_ret
    exact ⟨by first | rfl | simp [h], rfl⟩

theorem cL3Later (t d : Int) (w : World) (h0 : 0 ≤ t) (h1 : t ≤ 3155759999) (h2 : -3155759999 ≤ d) (h3 : d ≤ 3155759999) :
    Calls Tryz.prog 72 #[.int .i64 t, .int .i64 d] w fun e w' => e = .returned (.int .i64 (laterOf t d)) ∧ w' = w := by
  have hw : IntKind.i64.wrap (t + d) = t + d := IntWalk.i64_in _ (by omega)
  have C := fun w => cMin 3155759999 (t + d) w
  obtain ⟨m, hm⟩ : ∃ m, m = (if 3155759999 < t + d then 3155759999 else t + d) := ⟨_, rfl⟩
  rw [← hm] at C
  have D := fun w => cMax 0 m w
  obtain ⟨n, hn⟩ : ∃ n, n = (if 0 > m then 0 else m) := ⟨_, rfl⟩
  rw [← hn] at D
  have HN : Hid (n = if 0 > m then 0 else m) := hn
  have HM : Hid (m = if 3155759999 < t + d then 3155759999 else t + d) := hm
  clear hm hn
  go_enter Tryz.func72, Tryz.ntmps72
  go_wp2_with fail
  refine (C _).mono ?_
  rintro e w' ⟨rfl, rfl⟩
  go_wp2_with fail
  refine (D _).mono ?_
  rintro e w' ⟨rfl, rfl⟩
  go_wp2_with fail
  go_ret
  refine ⟨?_, rfl⟩
  unfold laterOf
  rw [if_pos ⟨⟨h0, h1⟩, h2, h3⟩]
  refine congrArg (fun x => Ending.returned (Value.int .i64 x)) ?_
  rw [HN.out, HM.out]
  repeat' split
  all_goals omega

theorem cLaterI (t d : Int) (w : World) :
    Calls Tryz.prog 63 #[.int .i64 t, .int .i64 d] w fun e w' => e = .returned (.int .i64 (laterOf t d)) ∧ w' = w := by
  have C := fun w => cTimeI t w
  by_cases h : 0 ≤ t ∧ t ≤ 3155759999
  · rw [decide_eq_true h] at C
    by_cases h1 : d < -3155759999
    · have e : laterOf t d = -1 := if_neg (fun x => by omega)
      rw [e]
      go_enter Tryz.func63, Tryz.ntmps63
      go_wp2_with fail
      refine (C _).mono ?_
      rintro e w' ⟨rfl, rfl⟩
      go_wp2_with fail
      go_ret
      exact ⟨rfl, rfl⟩
    · by_cases h2 : d > 3155759999
      · have e : laterOf t d = -1 := if_neg (fun x => by omega)
        rw [e]
        go_enter Tryz.func63, Tryz.ntmps63
        go_wp2_with fail
        refine (C _).mono ?_
        rintro e w' ⟨rfl, rfl⟩
        go_wp2_with fail
        go_ret
        exact ⟨rfl, rfl⟩
      · have hw : IntKind.i64.wrap (t + d) = t + d := IntWalk.i64_in _ (by omega)
        have e : laterOf t d = if t + d < 0 then 0 else if 3155759999 < t + d then 3155759999 else t + d := if_pos ⟨h, by omega, by omega⟩
        rw [e]
        clear e
        go_enter Tryz.func63, Tryz.ntmps63
        go_wp2_with fail
        refine (C _).mono ?_
        rintro e w' ⟨rfl, rfl⟩
        go_wp2_with fail
        all_goals go_ret
        all_goals exact ⟨by first | rfl | (congr 2; repeat' split
                                           all_goals omega), rfl⟩
  · have e : laterOf t d = -1 := if_neg (fun x => h x.1)
    rw [e]
    rw [decide_eq_false h] at C
    go_enter Tryz.func63, Tryz.ntmps63
    go_wp2_with fail
    refine (C _).mono ?_
    rintro e w' ⟨rfl, rfl⟩
    go_wp2_with fail
    go_ret
    exact ⟨rfl, rfl⟩

end Go.Proofs.YtajlgnlifffanaaGreatDoor
