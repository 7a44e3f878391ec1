/- Families (plain mathematics of promise 8): a kid ends where the next one begins, the first stands right behind, the last ends where its parent ends. What grows from tokens (plain mathematics). -/
import Derived.Test.YtcjeodgfpnecgaaM14
import Derived.Test.YtcjeodgfpnecgaaM12
namespace Go.Proofs.Ytcjeodgfpnecgaa
set_option linter.unusedVariables false

theorem TreeP.up {ts : List Tk} (h : TreeP ts) (j : Nat) (hj : j < ts.length) : UpOk ts j := (h.2.2.2.2 j hj).2.1

theorem TreeP.linked {ts : List Tk} (h : TreeP ts) (m : Nat) (hm : m < ts.length) : Linked ts (chainF ts (m + 1)) ∧ ∀ p ∈ chainF ts (m + 1), p < m + 1 := linked_all m (fun j hj => h.up j (by omega))

theorem endN_in {ts : List Tk} {k e : Nat} (hk : k < ts.length) (he : k < e) (h : e < endN ts k) : (k : Int) ≤ parI ts e := by
  by_cases q : (k : Int) ≤ parI ts e
  · exact q
  · have h2 := endN_le hk
    have := endN_min hk he (fun _ => by omega) (by omega)
    omega

theorem mem_drop {ts : List Tk} : ∀ {c : List Nat}, Linked ts c → ∀ p q, p ∈ c → q ∈ c → q ≤ p → q ∈ c.dropWhile (fun (j : Nat) => !decide ((j : Int) = (p : Int)))
  | [], h, p, q, hp, _, _ => absurd hp (by simp)
  | [x], h, p, q, hp, hq, _ => by
    rw [List.mem_singleton] at hp hq
    subst hp hq
    simp
  | x :: y :: r, h, p, q, hp, hq, hle => by
    by_cases e : x = p
    · subst e
      simpa using hq
    · have hp' : p ∈ y :: r := by
        rcases List.mem_cons.1 hp with h' | h'
        · exact absurd h'.symm e
        · exact h'
      have h1 := Linked.le h.tail p hp'
      have h2 := h.2.1
      have hq' : q ∈ y :: r := by
        rcases List.mem_cons.1 hq with h' | h'
        · omega
        · exact h'
      rw [List.dropWhile_cons, if_pos (by simp; omega)]
      exact mem_drop h.tail p q hp' hq' hle

theorem below_par {ts : List Tk} : ∀ {l : List Nat}, Linked ts l → ∀ c q, c ∈ l → q ∈ l → q < c → (q : Int) ≤ parI ts c
  | [], h, c, q, hc, _, _ => absurd hc (by simp)
  | [x], h, c, q, hc, hq, hlt => by
    rw [List.mem_singleton] at hc hq
    omega
  | x :: y :: r, h, c, q, hc, hq, hlt => by
    by_cases e : c = x
    · subst e
      have hq' : q ∈ y :: r := by
        rcases List.mem_cons.1 hq with h' | h'
        · omega
        · exact h'
      have h1 := Linked.le h.tail q hq'
      rw [h.1]
      omega
    · have hc' : c ∈ y :: r := by
        rcases List.mem_cons.1 hc with h' | h'
        · exact absurd h' e
        · exact h'
      have h1 := Linked.le h.tail c hc'
      have h2 := h.2.1
      have hq' : q ∈ y :: r := by
        rcases List.mem_cons.1 hq with h' | h'
        · omega
        · exact h'
      exact below_par h.tail c q hc' hq' hlt

/-- All that a node has lies in it. -/
theorem in_chain {ts : List Tk} (h : TreeP ts) {c : Nat} (hc : c < ts.length) : ∀ d, c + d < endN ts c → c ∈ chainF ts (c + d + 1)
  | 0, _ => by
    obtain ⟨r, e⟩ := chain_head ts c
    rw [Nat.add_zero, e]
    exact List.mem_cons_self ..
  | d + 1, hd => by
    have hle := endN_le hc
    have ih := in_chain h hc d (by omega)
    have hpar := endN_in hc (show c < c + (d + 1) by omega) hd
    obtain ⟨hL, _⟩ := h.linked (c + d) (by omega)
    rcases h.up (c + (d + 1)) (by omega) with h0 | ⟨p, hp, e, _⟩
    · omega
    · rw [← e] at hpar
      have hm := mem_drop hL p c hp ih (by omega)
      show c ∈ (c + (d + 1)) :: (chainF ts (c + (d + 1))).dropWhile (fun (j : Nat) => !decide ((j : Int) = parI ts (c + (d + 1))))
      rw [← e]
      exact List.mem_cons_of_mem _ hm

/-- Where a kid ends and more is to come, the next one begins. -/
theorem next_kid {ts : List Tk} (h : TreeP ts) {k c : Nat} (hk : k < ts.length) (hc : k < c) (hce : c < endN ts k) (hp : parI ts c = (k : Int)) (hj : endN ts c < endN ts k) : parI ts (endN ts c) = (k : Int) := by
  have hle := endN_le hk
  have hcl := endN_le (ts := ts) (k := c) (by omega)
  have hlow := endN_in hk (show k < endN ts c by omega) hj
  have hup : parI ts (endN ts c) < (c : Int) := by
    rcases endN_stop (ts := ts) (k := c) (by omega) with h' | h'
    · omega
    · exact h'
  have hin := in_chain h (show c < ts.length by omega) (endN ts c - c - 1) (by omega)
  rw [show c + (endN ts c - c - 1) + 1 = endN ts c by omega] at hin
  have hL := (h.linked (endN ts c - 1) (by omega)).1
  rw [show endN ts c - 1 + 1 = endN ts c by omega] at hL
  rcases h.up (endN ts c) (by omega) with h0 | ⟨p, hpm, e, _⟩
  · omega
  · rw [← e] at hlow hup ⊢
    have := below_par hL c p hin hpm (by omega)
    rw [hp] at this
    omega

theorem first_kid {ts : List Tk} (h : TreeP ts) {k : Nat} (hk : k < ts.length) (he : k + 1 < endN ts k) : parI ts (k + 1) = (k : Int) := by
  have hle := endN_le hk
  have hlow := endN_in hk (show k < k + 1 by omega) he
  rcases h.up (k + 1) (by omega) with h0 | ⟨p, hpm, e, _⟩
  · omega
  · have := (h.linked k hk).2 p hpm
    rw [← e] at hlow ⊢
    omega

/-- Behind its end nothing is its kid. -/
theorem out_chain {ts : List Tk} (h : TreeP ts) {k : Nat} (hk : k < ts.length) : ∀ d, endN ts k + d < ts.length → ¬ k ∈ chainF ts (endN ts k + d + 1)
  | 0, hd => by
    have hle := endN_le hk
    intro hm
    have hup : parI ts (endN ts k) < (k : Int) := by
      rcases endN_stop hk with h' | h'
      · omega
      · exact h'
    have hL := h.linked (endN ts k - 1) (by omega)
    rw [show endN ts k - 1 + 1 = endN ts k by omega] at hL
    obtain ⟨hl2, p, r, e, ep, _⟩ := linked_next hL.1 (h.up (endN ts k) (by omega)) (by omega) hL.2
    rw [Nat.add_zero, e] at hm
    rw [e] at hl2
    rcases List.mem_cons.1 hm with h' | h'
    · omega
    · have := Linked.le hl2.tail k h'
      omega
  | d + 1, hd => by
    have hle := endN_le hk
    have ih := out_chain h hk d (by omega)
    intro hm
    have hm : k ∈ (endN ts k + (d + 1)) :: (chainF ts (endN ts k + d + 1)).dropWhile (fun (j : Nat) => !decide ((j : Int) = parI ts (endN ts k + (d + 1)))) := hm
    rcases List.mem_cons.1 hm with h' | h'
    · omega
    · exact ih ((List.dropWhile_sublist _).mem h')

theorem no_kid {ts : List Tk} (h : TreeP ts) {k i : Nat} (hk : k < ts.length) (hi : endN ts k ≤ i) (hn : i < ts.length) : ¬ parI ts i = (k : Int) := by
  have hle := endN_le hk
  intro e
  rcases Nat.lt_or_eq_of_le hi with h' | h'
  · rcases h.up i hn with h0 | ⟨p, hpm, ep, _⟩
    · omega
    · have : p = k := by omega
      subst this
      have := out_chain h hk (i - endN ts p - 1) (by omega)
      rw [show endN ts p + (i - endN ts p - 1) + 1 = i by omega] at this
      exact this hpm
  · subst h'
    rcases endN_stop hk with h' | h'
    · omega
    · omega

/-- Kids from e on. -/
def kidsFrom (ts : List Tk) (k e E : Nat) : List Nat := (List.range' e (E - e)).filter fun i => decide (parI ts i = (k : Int))

theorem kidsFrom_split {ts : List Tk} {k a b c : Nat} (h1 : a ≤ b) (h2 : b ≤ c) : kidsFrom ts k a c = kidsFrom ts k a b ++ kidsFrom ts k b c := by
  unfold kidsFrom
  rw [← List.filter_append]
  congr 1
  have := List.range'_append_1 (s := a) (m := b - a) (n := c - b)
  rw [show a + (b - a) = b by omega, show b - a + (c - b) = c - a by omega] at this
  exact this.symm

theorem kidsFrom_none {ts : List Tk} {k a b : Nat} (h : ∀ i, a ≤ i → i < b → ¬ parI ts i = (k : Int)) : kidsFrom ts k a b = [] := by
  unfold kidsFrom
  rw [List.filter_eq_nil_iff]
  intro i hi
  rw [List.mem_range'_1] at hi
  simpa using h i hi.1 (by omega)

theorem kidsN_from {ts : List Tk} {k : Nat} (hk : k < ts.length) : kidsN ts k = kidsFrom ts k (k + 1) ts.length := by
  unfold kidsN kidsTo kidsFrom
  have e : List.range ts.length = List.range' 0 (k + 1) ++ List.range' (k + 1) (ts.length - (k + 1)) := by
    have := List.range'_append_1 (s := 0) (m := k + 1) (n := ts.length - (k + 1))
    rw [Nat.zero_add, show k + 1 + (ts.length - (k + 1)) = ts.length by omega] at this
    rw [this, List.range_eq_range']
  rw [e, List.filter_append]
  have e1 : (List.range' 0 (k + 1)).filter (fun i => decide (k < i) && decide (parI ts i = (k : Int))) = [] := by
    rw [List.filter_eq_nil_iff]
    intro i hi
    rw [List.mem_range'_1] at hi
    simp
    omega
  rw [e1, List.nil_append]
  refine List.filter_congr fun i hi => ?_
  rw [List.mem_range'_1] at hi
  have : decide (k < i) = true := decide_eq_true (by omega)
  rw [this, Bool.true_and]

/-- Where the i-th kid begins, or all ends. -/
structure FamAt (ts : List Tk) (k i e : Nat) : Prop where
  lo : k < e
  hi : e ≤ endN ts k
  kid : e < endN ts k → parI ts e = (k : Int)
  rest : kidsFrom ts k e (endN ts k) = (kidsN ts k).drop i

theorem fam_start {ts : List Tk} (h : TreeP ts) {k : Nat} (hk : k < ts.length) : FamAt ts k 0 (k + 1) := by
  have hle := endN_le hk
  refine ⟨by omega, by omega, fun he => first_kid h hk he, ?_⟩
  rw [List.drop_zero, kidsN_from hk, kidsFrom_split (show k + 1 ≤ endN ts k by omega) hle.2, kidsFrom_none (a := endN ts k) (fun i h1 h2 => no_kid h hk h1 h2), List.append_nil]

theorem fam_one {ts : List Tk} (h : TreeP ts) {k e : Nat} (hk : k < ts.length) (h1 : k < e) (h2 : e < endN ts k) (h3 : parI ts e = (k : Int)) : kidsFrom ts k e (endN ts k) = e :: kidsFrom ts k (endN ts e) (endN ts k) := by
  have hle := endN_le hk
  have hel := endN_le (ts := ts) (k := e) (by omega)
  have hke := (kid_end hk h1 h2).1
  rw [kidsFrom_split (show e ≤ e + 1 by omega) (show e + 1 ≤ endN ts k by omega), kidsFrom_split (show e + 1 ≤ endN ts e by omega) hke]
  have e1 : kidsFrom ts k e (e + 1) = [e] := by
    unfold kidsFrom
    rw [show e + 1 - e = 1 by omega]
    simp [h3]
  have e2 : kidsFrom ts k (e + 1) (endN ts e) = [] := kidsFrom_none (fun i g1 g2 => by
    have := endN_in (ts := ts) (k := e) (by omega) (show e < i by omega) g2
    omega)
  rw [e1, e2, List.nil_append]
  rfl

theorem FamAt.step {ts : List Tk} (h : TreeP ts) {k i e : Nat} (hk : k < ts.length) (f : FamAt ts k i e) (hi : i < (kidsN ts k).length) :
    (kidsN ts k)[i] = e ∧ e < endN ts k ∧ parI ts e = (k : Int) ∧ FamAt ts k (i + 1) (endN ts e) := by
  have hle := endN_le hk
  have hr := f.rest
  rw [List.drop_eq_getElem_cons hi] at hr
  have hlt : e < endN ts k := by
    rcases Nat.lt_or_eq_of_le f.hi with h' | h'
    · exact h'
    · rw [h', kidsFrom_none (fun i g1 g2 => by omega)] at hr
      cases hr
  have hp := f.kid hlt
  rw [fam_one h hk f.lo hlt hp] at hr
  injection hr with e1 e2
  have hel := endN_le (ts := ts) (k := e) (by omega)
  exact ⟨e1.symm, hlt, hp, ⟨by have := f.lo; omega, (kid_end hk f.lo hlt).1, fun hj => next_kid h hk f.lo hlt hp hj, e2⟩⟩

theorem FamAt.fin {ts : List Tk} (h : TreeP ts) {k i e : Nat} (hk : k < ts.length) (f : FamAt ts k i e) (hi : i = (kidsN ts k).length) : e = endN ts k := by
  rcases Nat.lt_or_eq_of_le f.hi with h' | h'
  · have hr := f.rest
    rw [fam_one h hk f.lo h' (f.kid h'), hi, List.drop_length] at hr
    cases hr
  · exact h'

end Go.Proofs.Ytcjeodgfpnecgaa

namespace Go.Proofs.Ytcjeodgfpnecgaa
set_option linter.unusedVariables false

/-- What has grown so far: the nodes, the one that is open, whether the first is closed. -/
structure GSt where
  out : List Tk
  at_ : Int
  done : Bool

noncomputable def gStep (s : GSt) (k : Tk) : Option GSt :=
  if tokB k = false ∨ s.done = true then none
  else if k.kind = 1 then some ⟨s.out ++ [⟨s.at_, k.name, k.attrs, ⟨#[]⟩⟩], (s.out.length : Int), false⟩
  else if k.kind = 3 then some ⟨s.out ++ [⟨s.at_, ⟨#[]⟩, [], k.text⟩], s.at_, false⟩
  else if s.at_ < 0 ∨ ¬ (nodeAt s.out s.at_.toNat).name = k.name then none
  else some ⟨s.out, parI s.out s.at_.toNat, decide (s.at_ = 0)⟩

noncomputable def gRun : List Tk → GSt → Option GSt
  | [], s => some s
  | k :: l, s => (gStep s k).bind (gRun l)

/-- The tree that grows from these tokens. -/
noncomputable def grownT (l : List Tk) : Option (List Tk) :=
  match gRun l ⟨[], -1, false⟩ with
  | none => none
  | some s => if s.done = true ∧ treeB s.out = true then some s.out else none

/-- Parents stand ahead, and the open one is there. -/
structure GInv (s : GSt) : Prop where
  lo : -1 ≤ s.at_
  hi : s.at_ < s.out.length
  par : ∀ j (h : j < s.out.length), -1 ≤ s.out[j].kind ∧ s.out[j].kind < j

theorem GInv.start : GInv ⟨[], -1, false⟩ := ⟨by show (-1 : Int) ≤ -1; omega, by show (-1 : Int) < 0; omega, fun j h => absurd h (Nat.not_lt_zero _)⟩

theorem GInv.snoc {s : GSt} (h : GInv s) (t : Tk) (ht : t.kind = s.at_) (a : Int) (d : Bool) (h1 : -1 ≤ a) (h2 : a < s.out.length + 1) : GInv ⟨s.out ++ [t], a, d⟩ := by
  refine ⟨h1, by show a < ((s.out ++ [t]).length : Int); rw [List.length_append]; simpa using h2, fun j hj => ?_⟩
  have hj : j < (s.out ++ [t]).length := hj
  show -1 ≤ (s.out ++ [t])[j].kind ∧ (s.out ++ [t])[j].kind < j
  rw [List.length_append, List.length_singleton] at hj
  rcases Nat.lt_or_ge j s.out.length with h' | h'
  · rw [List.getElem_append_left h']
    exact h.par j h'
  · have e : j = s.out.length := by omega
    subst e
    rw [List.getElem_append_right (Nat.le_refl _)]
    simp only [Nat.sub_self, List.getElem_singleton]
    rw [ht]
    exact ⟨h.lo, h.hi⟩

theorem GInv.up {s : GSt} (h : GInv s) (h0 : ¬ s.at_ < 0) (d : Bool) : GInv ⟨s.out, parI s.out s.at_.toNat, d⟩ := by
  have hk : s.at_.toNat < s.out.length := by have := h.hi; omega
  have := h.par _ hk
  refine ⟨?_, ?_, h.par⟩
  · show -1 ≤ parI s.out s.at_.toNat
    rw [parI_at hk]
    exact this.1
  · show parI s.out s.at_.toNat < s.out.length
    rw [parI_at hk]
    omega

theorem gRun_bad {l : List Tk} {s : GSt} {k : Tk} (h : gStep s k = none) : gRun (k :: l) s = none := by
  show (gStep s k).bind (gRun l) = none
  rw [h]
  rfl

theorem gRun_step {l : List Tk} {s s' : GSt} {k : Tk} (h : gStep s k = some s') : gRun (k :: l) s = gRun l s' := by
  show (gStep s k).bind (gRun l) = _
  rw [h]
  rfl

theorem gStep_one {s : GSt} {k : Tk} (h1 : tokB k = true) (h2 : s.done = false) (h3 : k.kind = 1) : gStep s k = some ⟨s.out ++ [⟨s.at_, k.name, k.attrs, ⟨#[]⟩⟩], (s.out.length : Int), false⟩ := by
  unfold gStep
  rw [if_neg (by rw [h1, h2]; simp), if_pos h3]

theorem gStep_three {s : GSt} {k : Tk} (h1 : tokB k = true) (h2 : s.done = false) (h3 : k.kind = 3) : gStep s k = some ⟨s.out ++ [⟨s.at_, ⟨#[]⟩, [], k.text⟩], s.at_, false⟩ := by
  unfold gStep
  rw [if_neg (by rw [h1, h2]; simp), if_neg (by omega), if_pos h3]

theorem gStep_two {s : GSt} {k : Tk} (h1 : tokB k = true) (h2 : s.done = false) (h3 : k.kind = 2) (h4 : ¬ s.at_ < 0) (h5 : (nodeAt s.out s.at_.toNat).name = k.name) : gStep s k = some ⟨s.out, parI s.out s.at_.toNat, decide (s.at_ = 0)⟩ := by
  unfold gStep
  rw [if_neg (by rw [h1, h2]; simp), if_neg (by omega), if_neg (by omega), if_neg (by rintro (h | h) <;> contradiction)]

theorem gStep_no {s : GSt} {k : Tk} (h : tokB k = false ∨ s.done = true) : gStep s k = none := by
  unfold gStep
  exact if_pos h

theorem gStep_no2 {s : GSt} {k : Tk} (h3 : k.kind = 2) (h : s.at_ < 0 ∨ ¬ (nodeAt s.out s.at_.toNat).name = k.name) : gStep s k = none := by
  unfold gStep
  by_cases q : tokB k = false ∨ s.done = true
  · exact if_pos q
  · rw [if_neg q, if_neg (by omega), if_neg (by omega), if_pos h]

theorem grownT_none {l : List Tk} (h : gRun l ⟨[], -1, false⟩ = none) : grownT l = none := by unfold grownT; rw [h]

theorem grownT_end {l : List Tk} {s : GSt} (h : gRun l ⟨[], -1, false⟩ = some s) : grownT l = if s.done = true ∧ treeB s.out = true then some s.out else none := by unfold grownT; rw [h]

end Go.Proofs.Ytcjeodgfpnecgaa
