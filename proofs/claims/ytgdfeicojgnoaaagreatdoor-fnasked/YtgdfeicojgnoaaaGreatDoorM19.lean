/- Tables: what entering and removing do to what is held. What is swept, as mathematics. -/
import Derived.Test.YtgdfeicojgnoaaaGreatDoorM4
namespace Go.Proofs.YtgdfeicojgnoaaaGreatDoor
open Go.RowKit
set_option linter.unusedVariables false
set_option linter.unusedSimpArgs false

/-- Right rows whose ids rise. -/
def Up (l : List Ro) : Prop := (∀ x ∈ l, roB x = true) ∧ l.Pairwise (fun x y => u_ltB x.id y.id = true)

theorem up_of {l : List Ro} (h : RowsP l l.length) : Up l := by
  refine ⟨fun x hx => ?_, List.pairwise_iff_getElem.2 fun i j hi hj hij => rise h hj hij hj⟩
  obtain ⟨i, hi, rfl⟩ := List.getElem_of_mem hx
  exact (h i hi hi).1

theorem of_up {l : List Ro} (h : Up l) : RowsP l l.length := fun i hi _ =>
  ⟨h.1 _ (List.getElem_mem hi), fun h0 => List.pairwise_iff_getElem.1 h.2 (i - 1) i (by omega) hi (by omega)⟩

theorem split_at {l : List Ro} {k : Nat} (h : k < l.length) : l = l.take k ++ l[k] :: l.drop (k + 1) := by
  rw [List.getElem_cons_drop, List.take_append_drop]

theorem up_del {a b : List Ro} {x : Ro} (h : Up (a ++ x :: b)) : Up (a ++ b) := by
  have hs : (a ++ b).Sublist (a ++ x :: b) := List.Sublist.append (List.Sublist.refl a) (List.sublist_cons_self x b)
  exact ⟨fun y hy => h.1 y (hs.subset hy), h.2.sublist hs⟩

theorem up_out {a b : List Ro} {x : Ro} (h : Up (a ++ x :: b)) : ¬ ∃ y ∈ a ++ b, y.id = x.id := by
  rintro ⟨y, hy, e⟩
  obtain ⟨_, h2, h3⟩ := List.pairwise_append.1 h.2
  have : u_ltB x.id x.id = true := by
    rcases List.mem_append.1 hy with h1 | h1
    · have := h3 y h1 x (List.mem_cons_self ..)
      rw [e] at this
      exact this
    · have := (List.pairwise_cons.1 h2).1 y h1
      rw [e] at this
      exact this
  rw [u_ltB_irr] at this
  cases this

theorem up_ins {a b : List Ro} {x : Ro} (h : Up (a ++ b)) (hx : roB x = true) (h1 : ∀ y ∈ a, u_ltB y.id x.id = true) (h2 : ∀ y ∈ b, u_ltB x.id y.id = true) : Up (a ++ x :: b) := by
  obtain ⟨p1, p2, p3⟩ := List.pairwise_append.1 h.2
  refine ⟨fun y hy => ?_, List.pairwise_append.2 ⟨p1, List.pairwise_cons.2 ⟨h2, p2⟩, fun y hy z hz => ?_⟩⟩
  · rcases List.mem_append.1 hy with h3 | h3
    · exact h.1 y (List.mem_append_left _ h3)
    · rcases List.mem_cons.1 h3 with rfl | h4
      · exact hx
      · exact h.1 y (List.mem_append_right _ h4)
  · rcases List.mem_cons.1 hz with rfl | h4
    · exact h1 y hy
    · exact p3 y hy z h4

/-- Where it is not there: what lies behind is greater. -/
theorem behind {l : List Ro} {id : ByteArray} (hP : RowsP l l.length) (hi : isR l id = false) : ∀ y ∈ l.drop (findR l id), u_ltB id y.id = true := by
  intro y hy
  obtain ⟨i, h1, rfl⟩ := List.getElem_of_mem hy
  rw [List.length_drop] at h1
  rw [List.getElem_drop]
  have hk : findR l id < l.length := by omega
  have h2 : u_ltB id l[findR l id].id = true := by
    cases h3 : u_ltB id l[findR l id].id with
    | true => rfl
    | false =>
      have e := u_ltB_tri (findR_ge hk) h3
      have : isR l id = true := (isR_iff hP).2 ⟨_, List.getElem_mem hk, e⟩
      rw [hi] at this
      cases this
  match i with
  | 0 => exact h2
  | i + 1 => exact u_ltB_trans h2 (rise hP (i := findR l id + (i + 1)) (j := findR l id) (by omega) (by omega) (by omega))

theorem ahead {l : List Ro} {id : ByteArray} : ∀ y ∈ l.take (findR l id), u_ltB y.id id = true := by
  intro y hy
  obtain ⟨i, h1, rfl⟩ := List.getElem_of_mem hy
  rw [List.getElem_take]
  exact findR_lt (by rw [List.length_take] at h1; omega)

/-- What is entered. -/
theorem ins_up {l : List Ro} {x : Ro} (hP : RowsP l l.length) (hi : isR l x.id = false) (hx : roB x = true) : Up (insR l (findR l x.id) x) := by
  unfold insR
  refine up_ins ?_ hx ahead (behind hP hi)
  rw [List.take_append_drop]
  exact up_of hP

theorem ins_find {l : List Ro} {x : Ro} : findR (insR l (findR l x.id) x) x.id = findR l x.id := by
  have hk := findR_le l x.id
  have hl := insR_len l (findR l x.id) x hk
  refine findR_at (by omega) (fun j hj => ?_) (fun q => ?_)
  · have e : (insR l (findR l x.id) x)[j]'(by omega) = l[j]'(by omega) := by
      unfold insR
      rw [List.getElem_append_left (by rw [List.length_take]; omega), List.getElem_take]
    rw [e]
    exact findR_lt hj
  · have e2 : (insR l (findR l x.id) x)[findR l x.id]? = some x := by
      unfold insR
      have h1 : (l.take (findR l x.id)).length = findR l x.id := by rw [List.length_take]; omega
      rw [List.getElem?_append_right (by omega), h1, Nat.sub_self]
      rfl
    have e := Option.some.inj ((List.getElem?_eq_getElem q).symm.trans e2)
    rw [e]
    exact u_ltB_irr _

theorem ins_back {l : List Ro} {x : Ro} : (insR l (findR l x.id) x).take (findR l x.id) ++ (insR l (findR l x.id) x).drop (findR l x.id + 1) = l := by
  have hk := findR_le l x.id
  generalize findR l x.id = k at *
  unfold insR
  have h1 : (l.take k).length = k := by rw [List.length_take]; omega
  rw [List.take_append_of_le_length (by omega), List.take_of_length_le (by omega), List.drop_append, h1, List.drop_of_length_le (by omega)]
  simp

theorem mem_ins {l : List Ro} {k : Nat} {x y : Ro} (h : y ∈ l) : y ∈ insR l k x := by
  unfold insR
  rw [← List.take_append_drop k l] at h
  rcases List.mem_append.1 h with h | h
  · exact List.mem_append_left _ h
  · exact List.mem_append_right _ (List.mem_cons_of_mem _ h)

theorem holds_iff {t : Tb} (h : tableB t = true) (id : ByteArray) : holdsT t id = true ↔ ∃ x ∈ t.rows, x.id = id := by
  unfold holdsT
  rw [h, Bool.true_and]
  exact isR_iff (tableB_p h).2.2

/-- What Removed answers. -/
theorem rem_is (t : Tb) (id : ByteArray) : (removedT t id).2 = holdsT t id := by
  unfold removedT removeT holdsT
  cases tableB t <;> cases isR t.rows id <;> rfl

theorem rem_law {t : Tb} {id : ByteArray} (h : (removedT t id).2 = true) : holdsT (removedT t id).1 id = false ∧ tableB (removedT t id).1 = true := by
  rw [rem_is] at h
  have ht : tableB t = true := by unfold holdsT at h; simp only [Bool.and_eq_true] at h; exact h.1
  have hi : isR t.rows id = true := by unfold holdsT at h; simp only [Bool.and_eq_true] at h; exact h.2
  obtain ⟨q, e⟩ := isR_some hi
  obtain ⟨m1, m2, m3⟩ := tableB_p ht
  have hu := up_of m3
  rw [split_at q] at hu
  have hd := up_del hu
  have ho := up_out hu
  have er : (removedT t id).1 = ⟨t.most, t.rows.take (findR t.rows id) ++ t.rows.drop (findR t.rows id + 1)⟩ := by
    unfold removedT removeT
    rw [if_pos ht, if_pos hi]
  have hb : tableB (removedT t id).1 = true := by
    rw [er]
    refine tableB_mk m1 ?_ (of_up hd)
    have : (t.rows.take (findR t.rows id) ++ t.rows.drop (findR t.rows id + 1)).length ≤ t.rows.length := by
      rw [List.length_append, List.length_take, List.length_drop]; omega
    show ((t.rows.take (findR t.rows id) ++ t.rows.drop (findR t.rows id + 1)).length : Int) ≤ t.most
    omega
  refine ⟨?_, hb⟩
  cases h9 : holdsT (removedT t id).1 id with
  | false => rfl
  | true =>
    obtain ⟨x, hx, e2⟩ := (holds_iff hb id).1 h9
    rw [er] at hx
    exact absurd ⟨x, hx, e2.trans e.symm⟩ ho

theorem new_law (m : Int) (h : (newT m).2 = true) : tableB (newT m).1 = true := by
  unfold newT at h ⊢
  by_cases hm : mostB m = true
  · rw [if_pos hm]
    unfold mostB at hm
    simp only [decide_eq_true_eq] at hm
    refine tableB_mk hm ?_ (fun i hi => absurd hi (Nat.not_lt_zero _))
    show (0 : Int) ≤ m
    omega
  · rw [if_neg hm] at h
    cases h

/-- What Entered answers. -/
theorem ent_law (t : Tb) (id : ByteArray) (til : Int) :
    ((enteredT t id til).2 = 3 ∧ (enteredT t id til).1 = zeroT) ∨ ((enteredT t id til).2 = 1 ∧ (enteredT t id til).1 = t ∧ holdsT t id = true)
    ∨ ((enteredT t id til).2 = 2 ∧ (enteredT t id til).1 = t ∧ (t.rows.length : Int) = t.most ∧ holdsT t id = false)
    ∨ ((enteredT t id til).2 = 0 ∧ tableB (enteredT t id til).1 = true ∧ (∀ j (h : j < t.rows.length), holdsT (enteredT t id til).1 t.rows[j].id = true) ∧ holdsT (enteredT t id til).1 id = true ∧ removedT (enteredT t id til).1 id = (t, true)) := by
  by_cases hg : (tableB t && u_idOk id && utmB til) = true
  · have e0 : enteredT t id til = enterT t id til := by unfold enteredT; rw [if_pos hg]
    simp only [Bool.and_eq_true] at hg
    obtain ⟨⟨ht, hid⟩, htm⟩ := hg
    rw [e0]
    by_cases hi : isR t.rows id = true
    · have e1 : enterT t id til = (t, 1) := by unfold enterT; rw [if_pos hi]
      rw [e1]
      exact .inr (.inl ⟨rfl, rfl, by unfold holdsT; rw [ht, hi]; rfl⟩)
    · have hi' : isR t.rows id = false := by cases h : isR t.rows id; rfl; exact absurd h hi
      by_cases hf : (t.rows.length : Int) = t.most
      · have e1 : enterT t id til = (t, 2) := by unfold enterT; rw [if_neg hi, if_pos hf]
        rw [e1]
        exact .inr (.inr (.inl ⟨rfl, rfl, hf, by unfold holdsT; rw [ht, hi']; rfl⟩))
      · have e1 : enterT t id til = (⟨t.most, insR t.rows (findR t.rows id) ⟨id, til⟩⟩, 0) := by unfold enterT; rw [if_neg hi, if_neg hf]
        rw [e1]
        obtain ⟨m1, m2, m3⟩ := tableB_p ht
        have hx : roB ⟨id, til⟩ = true := by unfold roB; rw [hid, htm]; rfl
        have hu : Up (insR t.rows (findR t.rows id) ⟨id, til⟩) := ins_up (x := ⟨id, til⟩) m3 hi' hx
        have hb : tableB ⟨t.most, insR t.rows (findR t.rows id) ⟨id, til⟩⟩ = true := by
          refine tableB_mk m1 ?_ (of_up hu)
          show ((insR t.rows (findR t.rows id) ⟨id, til⟩).length : Int) ≤ t.most
          rw [insR_len _ _ _ (findR_le _ _)]
          omega
        have hin : (⟨id, til⟩ : Ro) ∈ insR t.rows (findR t.rows id) ⟨id, til⟩ := by
          unfold insR
          exact List.mem_append_right _ (List.mem_cons_self ..)
        have hh : holdsT ⟨t.most, insR t.rows (findR t.rows id) ⟨id, til⟩⟩ id = true := (holds_iff hb id).2 ⟨_, hin, rfl⟩
        refine .inr (.inr (.inr ⟨rfl, hb, fun j hj => (holds_iff hb _).2 ⟨_, mem_ins (List.getElem_mem hj), rfl⟩, hh, ?_⟩))
        have hr : isR (insR t.rows (findR t.rows id) ⟨id, til⟩) id = true := by
          unfold holdsT at hh
          simp only [Bool.and_eq_true] at hh
          exact hh.2
        unfold removedT removeT
        rw [if_pos hb]
        show (if isR (insR t.rows (findR t.rows id) ⟨id, til⟩) id = true then _ else _) = _
        rw [if_pos hr]
        have e2 : findR (insR t.rows (findR t.rows id) ⟨id, til⟩) id = findR t.rows id := ins_find (x := ⟨id, til⟩)
        have e3 := ins_back (l := t.rows) (x := ⟨id, til⟩)
        show ((⟨t.most, (insR t.rows (findR t.rows id) ⟨id, til⟩).take (findR (insR t.rows (findR t.rows id) ⟨id, til⟩) id) ++ (insR t.rows (findR t.rows id) ⟨id, til⟩).drop (findR (insR t.rows (findR t.rows id) ⟨id, til⟩) id + 1)⟩ : Tb), true) = (t, true)
        rw [e2]
        have e4 : (⟨t.most, t.rows⟩ : Tb) = t := rfl
        have e5 : (insR t.rows (findR t.rows id) ⟨id, til⟩).take (findR t.rows id) ++ (insR t.rows (findR t.rows id) ⟨id, til⟩).drop (findR t.rows id + 1) = t.rows := e3
        rw [e5]
  · have e0 : enteredT t id til = (zeroT, 3) := by unfold enteredT; rw [if_neg hg]
    rw [e0]
    exact .inl ⟨rfl, rfl⟩

end Go.Proofs.YtgdfeicojgnoaaaGreatDoor

namespace Go.Proofs.YtgdfeicojgnoaaaGreatDoor
set_option linter.unusedVariables false

theorem sweep_up {l : List Ro} (h : Up l) (now : Int) : Up (sweepR l now) :=
  ⟨fun x hx => h.1 x ((List.mem_filter.1 hx).1), h.2.sublist List.filter_sublist⟩

/-- Rows whose ids rise are told by what they hold. -/
theorem up_eq {l m : List Ro} (hl : l.Pairwise (fun x y => u_ltB x.id y.id = true)) (hm : m.Pairwise (fun x y => u_ltB x.id y.id = true)) (hp : l.Perm m) : l = m := by
  refine hp.eq_of_pairwise (fun a b _ _ h1 h2 => ?_) hl hm
  have := u_ltB_trans h1 h2
  rw [u_ltB_irr] at this
  cases this

theorem swept_ok {t : Tb} {now : Int} (h : (tableB t && utmB now) = true) : tableB (sweptT t now) = true := by
  have e : sweptT t now = ⟨t.most, sweepR t.rows now⟩ := if_pos h
  simp only [Bool.and_eq_true] at h
  obtain ⟨m1, m2, m3⟩ := tableB_p h.1
  rw [e]
  refine tableB_mk m1 ?_ (of_up (sweep_up (up_of m3) now))
  have : (sweepR t.rows now).length ≤ t.rows.length := List.length_filter_le _ _
  show ((sweepR t.rows now).length : Int) ≤ t.most
  omega

/-- Of what was held that is still held which is of use. -/
theorem swept_holds {t : Tb} {now : Int} (h : (tableB t && utmB now) = true) (i : Nat) (hi : i < t.rows.length) : holdsT (sweptT t now) t.rows[i].id = decide (now < t.rows[i].til) := by
  have hb := swept_ok h
  have e : sweptT t now = ⟨t.most, sweepR t.rows now⟩ := if_pos h
  simp only [Bool.and_eq_true] at h
  obtain ⟨m1, m2, m3⟩ := tableB_p h.1
  cases hd : decide (now < t.rows[i].til) with
  | true =>
    refine (holds_iff hb _).2 ⟨t.rows[i], ?_, rfl⟩
    rw [e]
    exact List.mem_filter.2 ⟨List.getElem_mem hi, hd⟩
  | false =>
    cases hh : holdsT (sweptT t now) t.rows[i].id with
    | false => rfl
    | true =>
      obtain ⟨x, hx, hxe⟩ := (holds_iff hb _).1 hh
      rw [e] at hx
      obtain ⟨h1, h2⟩ := List.mem_filter.1 hx
      obtain ⟨j, hj, rfl⟩ := List.getElem_of_mem h1
      have hij : j = i := by
        rcases Nat.lt_trichotomy j i with q | q | q
        · have := rise m3 hi q hi
          rw [hxe, u_ltB_irr] at this
          cases this
        · exact q
        · have := rise m3 hj q hj
          rw [hxe, u_ltB_irr] at this
          cases this
      subst hij
      rw [hd] at h2
      cases h2

theorem sweep_later (l : List Ro) {now later : Int} (h : now ≤ later) : sweepR (sweepR l now) later = sweepR l later := by
  unfold sweepR
  rw [List.filter_filter]
  refine List.filter_congr fun x _ => ?_
  by_cases h1 : later < x.til
  · have h2 : now < x.til := by omega
    simp [h1, h2]
  · simp [h1]

theorem swept_later {t : Tb} {now later : Int} (h : (tableB t && utmB now) = true) (hl : now ≤ later) : sweptT (sweptT t now) later = sweptT t later := by
  have hb := swept_ok h
  have e : sweptT t now = ⟨t.most, sweepR t.rows now⟩ := if_pos h
  simp only [Bool.and_eq_true] at h
  cases hu : utmB later with
  | false =>
    have e1 : sweptT t later = zeroT := if_neg (by rw [hu]; simp)
    have e2 : sweptT (sweptT t now) later = zeroT := if_neg (by rw [hu]; simp)
    rw [e1, e2]
  | true =>
    have e1 : sweptT t later = ⟨t.most, sweepR t.rows later⟩ := if_pos (by rw [hu, h.1]; rfl)
    have e2 : sweptT (sweptT t now) later = ⟨(sweptT t now).most, sweepR (sweptT t now).rows later⟩ := if_pos (by rw [hu, hb]; rfl)
    rw [e1, e2, e]
    show (⟨t.most, sweepR (sweepR t.rows now) later⟩ : Tb) = _
    rw [sweep_later _ hl]

/-- How many are kept of the first ones. -/
theorem sweep_count {l : List Ro} {i : Nat} {now : Int} (h : i < l.length) : (sweepR (l.take (i + 1)) now).length = (sweepR (l.take i) now).length + (if now < l[i].til then 1 else 0) := by
  unfold sweepR
  rw [List.take_add_one, List.getElem?_eq_getElem h, List.filter_append, List.length_append]
  congr 1
  show ([l[i]].filter _).length = _
  by_cases hc : now < l[i].til
  · rw [List.filter_cons_of_pos (by simpa using hc), if_pos hc]
    rfl
  · rw [List.filter_cons_of_neg (by simpa using hc), if_neg hc]
    rfl

end Go.Proofs.YtgdfeicojgnoaaaGreatDoor
