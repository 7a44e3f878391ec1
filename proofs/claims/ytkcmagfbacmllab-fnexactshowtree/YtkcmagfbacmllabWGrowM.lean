/- What grows from tokens (plain mathematics). -/
import Derived.Test.YtkcmagfbacmllabWTokM
namespace Go.Proofs.Ytkcmagfbacmllab
set_option linter.unusedVariables false

/-- What has grown so far: the nodes, the one that is open, whether the first is closed. -/
structure GSt where
  out : List Tk
  at_ : Int
  done : Bool

noncomputable def gStep (s : GSt) (k : Tk) : Option GSt :=
  if tokB k = false ∨ s.done = true then none
  else if k.kind = 1 then some ⟨s.out ++ [⟨s.at_, k.name, k.attrs, ⟨#[]⟩⟩], (s.out.length : Int), false⟩
  else if k.kind = 3 then some ⟨s.out ++ [⟨s.at_, ⟨#[]⟩, [], k.text⟩], s.at_, false⟩
  else if s.at_ < 0 ∨ ¬ (nodeAt s.out s.at_.toNat).name = k.name then none
  else some ⟨s.out, parI s.out s.at_.toNat, decide (s.at_ = 0)⟩

noncomputable def gRun : List Tk → GSt → Option GSt
  | [], s => some s
  | k :: l, s => (gStep s k).bind (gRun l)

/-- The tree that grows from these tokens. -/
noncomputable def grownT (l : List Tk) : Option (List Tk) :=
  match gRun l ⟨[], -1, false⟩ with
  | none => none
  | some s => if s.done = true ∧ treeB s.out = true then some s.out else none

/-- Parents stand ahead, and the open one is there. -/
structure GInv (s : GSt) : Prop where
  lo : -1 ≤ s.at_
  hi : s.at_ < s.out.length
  par : ∀ j (h : j < s.out.length), -1 ≤ s.out[j].kind ∧ s.out[j].kind < j

theorem GInv.start : GInv ⟨[], -1, false⟩ := ⟨by show (-1 : Int) ≤ -1; omega, by show (-1 : Int) < 0; omega, fun j h => absurd h (Nat.not_lt_zero _)⟩

theorem GInv.snoc {s : GSt} (h : GInv s) (t : Tk) (ht : t.kind = s.at_) (a : Int) (d : Bool) (h1 : -1 ≤ a) (h2 : a < s.out.length + 1) : GInv ⟨s.out ++ [t], a, d⟩ := by
  refine ⟨h1, by show a < ((s.out ++ [t]).length : Int); rw [List.length_append]; simpa using h2, fun j hj => ?_⟩
  have hj : j < (s.out ++ [t]).length := hj
  show -1 ≤ (s.out ++ [t])[j].kind ∧ (s.out ++ [t])[j].kind < j
  rw [List.length_append, List.length_singleton] at hj
  rcases Nat.lt_or_ge j s.out.length with h' | h'
  · rw [List.getElem_append_left h']
    exact h.par j h'
  · have e : j = s.out.length := by omega
    subst e
    rw [List.getElem_append_right (Nat.le_refl _)]
    simp only [Nat.sub_self, List.getElem_singleton]
    rw [ht]
    exact ⟨h.lo, h.hi⟩

theorem GInv.up {s : GSt} (h : GInv s) (h0 : ¬ s.at_ < 0) (d : Bool) : GInv ⟨s.out, parI s.out s.at_.toNat, d⟩ := by
  have hk : s.at_.toNat < s.out.length := by have := h.hi; omega
  have := h.par _ hk
  refine ⟨?_, ?_, h.par⟩
  · show -1 ≤ parI s.out s.at_.toNat
    rw [parI_at hk]
    exact this.1
  · show parI s.out s.at_.toNat < s.out.length
    rw [parI_at hk]
    omega

theorem gRun_bad {l : List Tk} {s : GSt} {k : Tk} (h : gStep s k = none) : gRun (k :: l) s = none := by
  show (gStep s k).bind (gRun l) = none
  rw [h]
  rfl

theorem gRun_step {l : List Tk} {s s' : GSt} {k : Tk} (h : gStep s k = some s') : gRun (k :: l) s = gRun l s' := by
  show (gStep s k).bind (gRun l) = _
  rw [h]
  rfl

theorem gStep_one {s : GSt} {k : Tk} (h1 : tokB k = true) (h2 : s.done = false) (h3 : k.kind = 1) : gStep s k = some ⟨s.out ++ [⟨s.at_, k.name, k.attrs, ⟨#[]⟩⟩], (s.out.length : Int), false⟩ := by
  unfold gStep
  rw [if_neg (by rw [h1, h2]; simp), if_pos h3]

theorem gStep_three {s : GSt} {k : Tk} (h1 : tokB k = true) (h2 : s.done = false) (h3 : k.kind = 3) : gStep s k = some ⟨s.out ++ [⟨s.at_, ⟨#[]⟩, [], k.text⟩], s.at_, false⟩ := by
  unfold gStep
  rw [if_neg (by rw [h1, h2]; simp), if_neg (by omega), if_pos h3]

theorem gStep_two {s : GSt} {k : Tk} (h1 : tokB k = true) (h2 : s.done = false) (h3 : k.kind = 2) (h4 : ¬ s.at_ < 0) (h5 : (nodeAt s.out s.at_.toNat).name = k.name) : gStep s k = some ⟨s.out, parI s.out s.at_.toNat, decide (s.at_ = 0)⟩ := by
  unfold gStep
  rw [if_neg (by rw [h1, h2]; simp), if_neg (by omega), if_neg (by omega), if_neg (by rintro (h | h) <;> contradiction)]

theorem gStep_no {s : GSt} {k : Tk} (h : tokB k = false ∨ s.done = true) : gStep s k = none := by
  unfold gStep
  exact if_pos h

theorem gStep_no2 {s : GSt} {k : Tk} (h3 : k.kind = 2) (h : s.at_ < 0 ∨ ¬ (nodeAt s.out s.at_.toNat).name = k.name) : gStep s k = none := by
  unfold gStep
  by_cases q : tokB k = false ∨ s.done = true
  · exact if_pos q
  · rw [if_neg q, if_neg (by omega), if_neg (by omega), if_pos h]

theorem grownT_none {l : List Tk} (h : gRun l ⟨[], -1, false⟩ = none) : grownT l = none := by unfold grownT; rw [h]

theorem grownT_end {l : List Tk} {s : GSt} (h : gRun l ⟨[], -1, false⟩ = some s) : grownT l = if s.done = true ∧ treeB s.out = true then some s.out else none := by unfold grownT; rw [h]

end Go.Proofs.Ytkcmagfbacmllab
