/- What is swept, as mathematics. -/
import Derived.Test.YtajlgnlifffanaaGreatDoorM19
namespace Go.Proofs.YtajlgnlifffanaaGreatDoor
set_option linter.unusedVariables false

theorem sweep_up {l : List Ro} (h : Up l) (now : Int) : Up (sweepR l now) :=
  ⟨fun x hx => h.1 x ((List.mem_filter.1 hx).1), h.2.sublist List.filter_sublist⟩

/-- Rows whose ids rise are told by what they hold. -/
theorem up_eq {l m : List Ro} (hl : l.Pairwise (fun x y => u_ltB x.id y.id = true)) (hm : m.Pairwise (fun x y => u_ltB x.id y.id = true)) (hp : l.Perm m) : l = m := by
  refine hp.eq_of_pairwise (fun a b _ _ h1 h2 => ?_) hl hm
  have := u_ltB_trans h1 h2
  rw [u_ltB_irr] at this
  cases this

theorem swept_ok {t : Tb} {now : Int} (h : (tableB t && utmB now) = true) : tableB (sweptT t now) = true := by
  have e : sweptT t now = ⟨t.most, sweepR t.rows now⟩ := if_pos h
  simp only [Bool.and_eq_true] at h
  obtain ⟨m1, m2, m3⟩ := tableB_p h.1
  rw [e]
  refine tableB_mk m1 ?_ (of_up (sweep_up (up_of m3) now))
  have : (sweepR t.rows now).length ≤ t.rows.length := List.length_filter_le _ _
  show ((sweepR t.rows now).length : Int) ≤ t.most
  omega

/-- Of what was held that is still held which is of use. -/
theorem swept_holds {t : Tb} {now : Int} (h : (tableB t && utmB now) = true) (i : Nat) (hi : i < t.rows.length) : holdsT (sweptT t now) t.rows[i].id = decide (now < t.rows[i].til) := by
  have hb := swept_ok h
  have e : sweptT t now = ⟨t.most, sweepR t.rows now⟩ := if_pos h
  simp only [Bool.and_eq_true] at h
  obtain ⟨m1, m2, m3⟩ := tableB_p h.1
  cases hd : decide (now < t.rows[i].til) with
  | true =>
    refine (holds_iff hb _).2 ⟨t.rows[i], ?_, rfl⟩
    rw [e]
    exact List.mem_filter.2 ⟨List.getElem_mem hi, hd⟩
  | false =>
    cases hh : holdsT (sweptT t now) t.rows[i].id with
    | false => rfl
    | true =>
      obtain ⟨x, hx, hxe⟩ := (holds_iff hb _).1 hh
      rw [e] at hx
      obtain ⟨h1, h2⟩ := List.mem_filter.1 hx
      obtain ⟨j, hj, rfl⟩ := List.getElem_of_mem h1
      have hij : j = i := by
        rcases Nat.lt_trichotomy j i with q | q | q
        · have := rise m3 hi q hi
          rw [hxe, u_ltB_irr] at this
          cases this
        · exact q
        · have := rise m3 hj q hj
          rw [hxe, u_ltB_irr] at this
          cases this
      subst hij
      rw [hd] at h2
      cases h2

theorem sweep_later (l : List Ro) {now later : Int} (h : now ≤ later) : sweepR (sweepR l now) later = sweepR l later := by
  unfold sweepR
  rw [List.filter_filter]
  refine List.filter_congr fun x _ => ?_
  by_cases h1 : later < x.til
  · have h2 : now < x.til := by omega
    simp [h1, h2]
  · simp [h1]

theorem swept_later {t : Tb} {now later : Int} (h : (tableB t && utmB now) = true) (hl : now ≤ later) : sweptT (sweptT t now) later = sweptT t later := by
  have hb := swept_ok h
  have e : sweptT t now = ⟨t.most, sweepR t.rows now⟩ := if_pos h
  simp only [Bool.and_eq_true] at h
  cases hu : utmB later with
  | false =>
    have e1 : sweptT t later = zeroT := if_neg (by rw [hu]; simp)
    have e2 : sweptT (sweptT t now) later = zeroT := if_neg (by rw [hu]; simp)
    rw [e1, e2]
  | true =>
    have e1 : sweptT t later = ⟨t.most, sweepR t.rows later⟩ := if_pos (by rw [hu, h.1]; rfl)
    have e2 : sweptT (sweptT t now) later = ⟨(sweptT t now).most, sweepR (sweptT t now).rows later⟩ := if_pos (by rw [hu, hb]; rfl)
    rw [e1, e2, e]
    show (⟨t.most, sweepR (sweepR t.rows now) later⟩ : Tb) = _
    rw [sweep_later _ hl]

/-- How many are kept of the first ones. -/
theorem sweep_count {l : List Ro} {i : Nat} {now : Int} (h : i < l.length) : (sweepR (l.take (i + 1)) now).length = (sweepR (l.take i) now).length + (if now < l[i].til then 1 else 0) := by
  unfold sweepR
  rw [List.take_add_one, List.getElem?_eq_getElem h, List.filter_append, List.length_append]
  congr 1
  show ([l[i]].filter _).length = _
  by_cases hc : now < l[i].til
  · rw [List.filter_cons_of_pos (by simpa using hc), if_pos hc]
    rfl
  · rw [List.filter_cons_of_neg (by simpa using hc), if_neg hc]
    rfl

end Go.Proofs.YtajlgnlifffanaaGreatDoor
