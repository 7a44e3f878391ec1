/- Families (plain mathematics of promise 8): a kid ends where the next one begins, the first stands right behind, the last ends where its parent ends. What grows from tokens (plain mathematics). What is told as tokens grows again, and what has grown is told as the same tokens (plain mathematics of promise 8). TokensOf of what has grown are the tokens (plain mathematics of promise 8). -/
import Derived.Test.YteninofjeidljaaGreatM20
import Derived.Test.YteninofjeidljaaGreatM6
namespace Go.Proofs.YteninofjeidljaaGreat

set_option linter.unusedVariables false

theorem TreeP.up {ts : List Tk} (h : TreeP ts) (j : Nat) (hj : j < ts.length) : UpOk ts j := (h.2.2.2.2 j hj).2.1

theorem TreeP.linked {ts : List Tk} (h : TreeP ts) (m : Nat) (hm : m < ts.length) : Linked ts (chainF ts (m + 1)) ∧ ∀ p ∈ chainF ts (m + 1), p < m + 1 := linked_all m (fun j hj => h.up j (by omega))

theorem endN_in {ts : List Tk} {k e : Nat} (hk : k < ts.length) (he : k < e) (h : e < endN ts k) : (k : Int) ≤ parI ts e := by
  by_cases q : (k : Int) ≤ parI ts e
  · exact q
  · have h2 := endN_le hk
    have := endN_min hk he (fun _ => by omega) (by omega)
    omega

theorem mem_drop {ts : List Tk} : ∀ {c : List Nat}, Linked ts c → ∀ p q, p ∈ c → q ∈ c → q ≤ p → q ∈ c.dropWhile (fun (j : Nat) => !decide ((j : Int) = (p : Int)))
  | [], h, p, q, hp, _, _ => absurd hp (by simp)
  | [x], h, p, q, hp, hq, _ => by
    rw [List.mem_singleton] at hp hq
    subst hp hq
    simp
  | x :: y :: r, h, p, q, hp, hq, hle => by
    by_cases e : x = p
    · subst e
      simpa using hq
    · have hp' : p ∈ y :: r := by
        rcases List.mem_cons.1 hp with h' | h'
        · exact absurd h'.symm e
        · exact h'
      have h1 := Linked.le h.tail p hp'
      have h2 := h.2.1
      have hq' : q ∈ y :: r := by
        rcases List.mem_cons.1 hq with h' | h'
        · omega
        · exact h'
      rw [List.dropWhile_cons, if_pos (by simp; omega)]
      exact mem_drop h.tail p q hp' hq' hle

theorem below_par {ts : List Tk} : ∀ {l : List Nat}, Linked ts l → ∀ c q, c ∈ l → q ∈ l → q < c → (q : Int) ≤ parI ts c
  | [], h, c, q, hc, _, _ => absurd hc (by simp)
  | [x], h, c, q, hc, hq, hlt => by
    rw [List.mem_singleton] at hc hq
    omega
  | x :: y :: r, h, c, q, hc, hq, hlt => by
    by_cases e : c = x
    · subst e
      have hq' : q ∈ y :: r := by
        rcases List.mem_cons.1 hq with h' | h'
        · omega
        · exact h'
      have h1 := Linked.le h.tail q hq'
      rw [h.1]
      omega
    · have hc' : c ∈ y :: r := by
        rcases List.mem_cons.1 hc with h' | h'
        · exact absurd h' e
        · exact h'
      have h1 := Linked.le h.tail c hc'
      have h2 := h.2.1
      have hq' : q ∈ y :: r := by
        rcases List.mem_cons.1 hq with h' | h'
        · omega
        · exact h'
      exact below_par h.tail c q hc' hq' hlt

/-- All that a node has lies in it. -/
theorem in_chain {ts : List Tk} (h : TreeP ts) {c : Nat} (hc : c < ts.length) : ∀ d, c + d < endN ts c → c ∈ chainF ts (c + d + 1)
  | 0, _ => by
    obtain ⟨r, e⟩ := chain_head ts c
    rw [Nat.add_zero, e]
    exact List.mem_cons_self ..
  | d + 1, hd => by
    have hle := endN_le hc
    have ih := in_chain h hc d (by omega)
    have hpar := endN_in hc (show c < c + (d + 1) by omega) hd
    obtain ⟨hL, _⟩ := h.linked (c + d) (by omega)
    rcases h.up (c + (d + 1)) (by omega) with h0 | ⟨p, hp, e, _⟩
    · omega
    · rw [← e] at hpar
      have hm := mem_drop hL p c hp ih (by omega)
      show c ∈ (c + (d + 1)) :: (chainF ts (c + (d + 1))).dropWhile (fun (j : Nat) => !decide ((j : Int) = parI ts (c + (d + 1))))
      rw [← e]
      exact List.mem_cons_of_mem _ hm

/-- Where a kid ends and more is to come, the next one begins. -/
theorem next_kid {ts : List Tk} (h : TreeP ts) {k c : Nat} (hk : k < ts.length) (hc : k < c) (hce : c < endN ts k) (hp : parI ts c = (k : Int)) (hj : endN ts c < endN ts k) : parI ts (endN ts c) = (k : Int) := by
  have hle := endN_le hk
  have hcl := endN_le (ts := ts) (k := c) (by omega)
  have hlow := endN_in hk (show k < endN ts c by omega) hj
  have hup : parI ts (endN ts c) < (c : Int) := by
    rcases endN_stop (ts := ts) (k := c) (by omega) with h' | h'
    · omega
    · exact h'
  have hin := in_chain h (show c < ts.length by omega) (endN ts c - c - 1) (by omega)
  rw [show c + (endN ts c - c - 1) + 1 = endN ts c by omega] at hin
  have hL := (h.linked (endN ts c - 1) (by omega)).1
  rw [show endN ts c - 1 + 1 = endN ts c by omega] at hL
  rcases h.up (endN ts c) (by omega) with h0 | ⟨p, hpm, e, _⟩
  · omega
  · rw [← e] at hlow hup ⊢
    have := below_par hL c p hin hpm (by omega)
    rw [hp] at this
    omega

theorem first_kid {ts : List Tk} (h : TreeP ts) {k : Nat} (hk : k < ts.length) (he : k + 1 < endN ts k) : parI ts (k + 1) = (k : Int) := by
  have hle := endN_le hk
  have hlow := endN_in hk (show k < k + 1 by omega) he
  rcases h.up (k + 1) (by omega) with h0 | ⟨p, hpm, e, _⟩
  · omega
  · have := (h.linked k hk).2 p hpm
    rw [← e] at hlow ⊢
    omega

/-- Behind its end nothing is its kid. -/
theorem out_chain {ts : List Tk} (h : TreeP ts) {k : Nat} (hk : k < ts.length) : ∀ d, endN ts k + d < ts.length → ¬ k ∈ chainF ts (endN ts k + d + 1)
  | 0, hd => by
    have hle := endN_le hk
    intro hm
    have hup : parI ts (endN ts k) < (k : Int) := by
      rcases endN_stop hk with h' | h'
      · omega
      · exact h'
    have hL := h.linked (endN ts k - 1) (by omega)
    rw [show endN ts k - 1 + 1 = endN ts k by omega] at hL
    obtain ⟨hl2, p, r, e, ep, _⟩ := linked_next hL.1 (h.up (endN ts k) (by omega)) (by omega) hL.2
    rw [Nat.add_zero, e] at hm
    rw [e] at hl2
    rcases List.mem_cons.1 hm with h' | h'
    · omega
    · have := Linked.le hl2.tail k h'
      omega
  | d + 1, hd => by
    have hle := endN_le hk
    have ih := out_chain h hk d (by omega)
    intro hm
    have hm : k ∈ (endN ts k + (d + 1)) :: (chainF ts (endN ts k + d + 1)).dropWhile (fun (j : Nat) => !decide ((j : Int) = parI ts (endN ts k + (d + 1)))) := hm
    rcases List.mem_cons.1 hm with h' | h'
    · omega
    · exact ih ((List.dropWhile_sublist _).mem h')

theorem no_kid {ts : List Tk} (h : TreeP ts) {k i : Nat} (hk : k < ts.length) (hi : endN ts k ≤ i) (hn : i < ts.length) : ¬ parI ts i = (k : Int) := by
  have hle := endN_le hk
  intro e
  rcases Nat.lt_or_eq_of_le hi with h' | h'
  · rcases h.up i hn with h0 | ⟨p, hpm, ep, _⟩
    · omega
    · have : p = k := by omega
      subst this
      have := out_chain h hk (i - endN ts p - 1) (by omega)
      rw [show endN ts p + (i - endN ts p - 1) + 1 = i by omega] at this
      exact this hpm
  · subst h'
    rcases endN_stop hk with h' | h'
    · omega
    · omega

/-- Kids from e on. -/
def kidsFrom (ts : List Tk) (k e E : Nat) : List Nat := (List.range' e (E - e)).filter fun i => decide (parI ts i = (k : Int))

theorem kidsFrom_split {ts : List Tk} {k a b c : Nat} (h1 : a ≤ b) (h2 : b ≤ c) : kidsFrom ts k a c = kidsFrom ts k a b ++ kidsFrom ts k b c := by
  unfold kidsFrom
  rw [← List.filter_append]
  congr 1
  have := List.range'_append_1 (s := a) (m := b - a) (n := c - b)
  rw [show a + (b - a) = b by omega, show b - a + (c - b) = c - a by omega] at this
  exact this.symm

theorem kidsFrom_none {ts : List Tk} {k a b : Nat} (h : ∀ i, a ≤ i → i < b → ¬ parI ts i = (k : Int)) : kidsFrom ts k a b = [] := by
  unfold kidsFrom
  rw [List.filter_eq_nil_iff]
  intro i hi
  rw [List.mem_range'_1] at hi
  simpa using h i hi.1 (by omega)

theorem kidsN_from {ts : List Tk} {k : Nat} (hk : k < ts.length) : kidsN ts k = kidsFrom ts k (k + 1) ts.length := by
  unfold kidsN kidsTo kidsFrom
  have e : List.range ts.length = List.range' 0 (k + 1) ++ List.range' (k + 1) (ts.length - (k + 1)) := by
    have := List.range'_append_1 (s := 0) (m := k + 1) (n := ts.length - (k + 1))
    rw [Nat.zero_add, show k + 1 + (ts.length - (k + 1)) = ts.length by omega] at this
    rw [this, List.range_eq_range']
  rw [e, List.filter_append]
  have e1 : (List.range' 0 (k + 1)).filter (fun i => decide (k < i) && decide (parI ts i = (k : Int))) = [] := by
    rw [List.filter_eq_nil_iff]
    intro i hi
    rw [List.mem_range'_1] at hi
    simp
    omega
  rw [e1, List.nil_append]
  refine List.filter_congr fun i hi => ?_
  rw [List.mem_range'_1] at hi
  have : decide (k < i) = true := decide_eq_true (by omega)
  rw [this, Bool.true_and]

/-- Where the i-th kid begins, or all ends. -/
structure FamAt (ts : List Tk) (k i e : Nat) : Prop where
  lo : k < e
  hi : e ≤ endN ts k
  kid : e < endN ts k → parI ts e = (k : Int)
  rest : kidsFrom ts k e (endN ts k) = (kidsN ts k).drop i

theorem fam_start {ts : List Tk} (h : TreeP ts) {k : Nat} (hk : k < ts.length) : FamAt ts k 0 (k + 1) := by
  have hle := endN_le hk
  refine ⟨by omega, by omega, fun he => first_kid h hk he, ?_⟩
  rw [List.drop_zero, kidsN_from hk, kidsFrom_split (show k + 1 ≤ endN ts k by omega) hle.2, kidsFrom_none (a := endN ts k) (fun i h1 h2 => no_kid h hk h1 h2), List.append_nil]

theorem fam_one {ts : List Tk} (h : TreeP ts) {k e : Nat} (hk : k < ts.length) (h1 : k < e) (h2 : e < endN ts k) (h3 : parI ts e = (k : Int)) : kidsFrom ts k e (endN ts k) = e :: kidsFrom ts k (endN ts e) (endN ts k) := by
  have hle := endN_le hk
  have hel := endN_le (ts := ts) (k := e) (by omega)
  have hke := (kid_end hk h1 h2).1
  rw [kidsFrom_split (show e ≤ e + 1 by omega) (show e + 1 ≤ endN ts k by omega), kidsFrom_split (show e + 1 ≤ endN ts e by omega) hke]
  have e1 : kidsFrom ts k e (e + 1) = [e] := by
    unfold kidsFrom
    rw [show e + 1 - e = 1 by omega]
    simp [h3]
  have e2 : kidsFrom ts k (e + 1) (endN ts e) = [] := kidsFrom_none (fun i g1 g2 => by
    have := endN_in (ts := ts) (k := e) (by omega) (show e < i by omega) g2
    omega)
  rw [e1, e2, List.nil_append]
  rfl

theorem FamAt.step {ts : List Tk} (h : TreeP ts) {k i e : Nat} (hk : k < ts.length) (f : FamAt ts k i e) (hi : i < (kidsN ts k).length) :
    (kidsN ts k)[i] = e ∧ e < endN ts k ∧ parI ts e = (k : Int) ∧ FamAt ts k (i + 1) (endN ts e) := by
  have hle := endN_le hk
  have hr := f.rest
  rw [List.drop_eq_getElem_cons hi] at hr
  have hlt : e < endN ts k := by
    rcases Nat.lt_or_eq_of_le f.hi with h' | h'
    · exact h'
    · rw [h', kidsFrom_none (fun i g1 g2 => by omega)] at hr
      cases hr
  have hp := f.kid hlt
  rw [fam_one h hk f.lo hlt hp] at hr
  injection hr with e1 e2
  have hel := endN_le (ts := ts) (k := e) (by omega)
  exact ⟨e1.symm, hlt, hp, ⟨by have := f.lo; omega, (kid_end hk f.lo hlt).1, fun hj => next_kid h hk f.lo hlt hp hj, e2⟩⟩

end Go.Proofs.YteninofjeidljaaGreat

namespace Go.Proofs.YteninofjeidljaaGreat

set_option linter.unusedVariables false

/-- What has grown so far: the nodes, the one that is open, whether the first is closed. -/
structure GSt where
  out : List Tk
  at_ : Int
  done : Bool

noncomputable def gStep (s : GSt) (k : Tk) : Option GSt :=
  if tokB k = false ∨ s.done = true then none
  else if k.kind = 1 then some ⟨s.out ++ [⟨s.at_, k.name, k.attrs, ⟨#[]⟩⟩], (s.out.length : Int), false⟩
  else if k.kind = 3 then some ⟨s.out ++ [⟨s.at_, ⟨#[]⟩, [], k.text⟩], s.at_, false⟩
  else if s.at_ < 0 ∨ ¬ (nodeAt s.out s.at_.toNat).name = k.name then none
  else some ⟨s.out, parI s.out s.at_.toNat, decide (s.at_ = 0)⟩

noncomputable def gRun : List Tk → GSt → Option GSt
  | [], s => some s
  | k :: l, s => (gStep s k).bind (gRun l)

/-- The tree that grows from these tokens. -/
noncomputable def grownT (l : List Tk) : Option (List Tk) :=
  match gRun l ⟨[], -1, false⟩ with
  | none => none
  | some s => if s.done = true ∧ treeB s.out = true then some s.out else none

/-- Parents stand ahead, and the open one is there. -/
structure GInv (s : GSt) : Prop where
  lo : -1 ≤ s.at_
  hi : s.at_ < s.out.length
  par : ∀ j (h : j < s.out.length), -1 ≤ s.out[j].kind ∧ s.out[j].kind < j

theorem GInv.start : GInv ⟨[], -1, false⟩ := ⟨by show (-1 : Int) ≤ -1; omega, by show (-1 : Int) < 0; omega, fun j h => absurd h (Nat.not_lt_zero _)⟩

theorem GInv.snoc {s : GSt} (h : GInv s) (t : Tk) (ht : t.kind = s.at_) (a : Int) (d : Bool) (h1 : -1 ≤ a) (h2 : a < s.out.length + 1) : GInv ⟨s.out ++ [t], a, d⟩ := by
  refine ⟨h1, by show a < ((s.out ++ [t]).length : Int); rw [List.length_append]; simpa using h2, fun j hj => ?_⟩
  have hj : j < (s.out ++ [t]).length := hj
  show -1 ≤ (s.out ++ [t])[j].kind ∧ (s.out ++ [t])[j].kind < j
  rw [List.length_append, List.length_singleton] at hj
  rcases Nat.lt_or_ge j s.out.length with h' | h'
  · rw [List.getElem_append_left h']
    exact h.par j h'
  · have e : j = s.out.length := by omega
    subst e
    rw [List.getElem_append_right (Nat.le_refl _)]
    simp only [Nat.sub_self, List.getElem_singleton]
    rw [ht]
    exact ⟨h.lo, h.hi⟩

theorem GInv.up {s : GSt} (h : GInv s) (h0 : ¬ s.at_ < 0) (d : Bool) : GInv ⟨s.out, parI s.out s.at_.toNat, d⟩ := by
  have hk : s.at_.toNat < s.out.length := by have := h.hi; omega
  have := h.par _ hk
  refine ⟨?_, ?_, h.par⟩
  · show -1 ≤ parI s.out s.at_.toNat
    rw [parI_at hk]
    exact this.1
  · show parI s.out s.at_.toNat < s.out.length
    rw [parI_at hk]
    omega

theorem gRun_bad {l : List Tk} {s : GSt} {k : Tk} (h : gStep s k = none) : gRun (k :: l) s = none := by
  show (gStep s k).bind (gRun l) = none
  rw [h]
  rfl

theorem gRun_step {l : List Tk} {s s' : GSt} {k : Tk} (h : gStep s k = some s') : gRun (k :: l) s = gRun l s' := by
  show (gStep s k).bind (gRun l) = _
  rw [h]
  rfl

theorem gStep_one {s : GSt} {k : Tk} (h1 : tokB k = true) (h2 : s.done = false) (h3 : k.kind = 1) : gStep s k = some ⟨s.out ++ [⟨s.at_, k.name, k.attrs, ⟨#[]⟩⟩], (s.out.length : Int), false⟩ := by
  unfold gStep
  rw [if_neg (by rw [h1, h2]; simp), if_pos h3]

theorem gStep_three {s : GSt} {k : Tk} (h1 : tokB k = true) (h2 : s.done = false) (h3 : k.kind = 3) : gStep s k = some ⟨s.out ++ [⟨s.at_, ⟨#[]⟩, [], k.text⟩], s.at_, false⟩ := by
  unfold gStep
  rw [if_neg (by rw [h1, h2]; simp), if_neg (by omega), if_pos h3]

theorem gStep_two {s : GSt} {k : Tk} (h1 : tokB k = true) (h2 : s.done = false) (h3 : k.kind = 2) (h4 : ¬ s.at_ < 0) (h5 : (nodeAt s.out s.at_.toNat).name = k.name) : gStep s k = some ⟨s.out, parI s.out s.at_.toNat, decide (s.at_ = 0)⟩ := by
  unfold gStep
  rw [if_neg (by rw [h1, h2]; simp), if_neg (by omega), if_neg (by omega), if_neg (by rintro (h | h) <;> contradiction)]

theorem gStep_no {s : GSt} {k : Tk} (h : tokB k = false ∨ s.done = true) : gStep s k = none := by
  unfold gStep
  exact if_pos h

theorem gStep_no2 {s : GSt} {k : Tk} (h3 : k.kind = 2) (h : s.at_ < 0 ∨ ¬ (nodeAt s.out s.at_.toNat).name = k.name) : gStep s k = none := by
  unfold gStep
  by_cases q : tokB k = false ∨ s.done = true
  · exact if_pos q
  · rw [if_neg q, if_neg (by omega), if_neg (by omega), if_pos h]

theorem grownT_none {l : List Tk} (h : gRun l ⟨[], -1, false⟩ = none) : grownT l = none := by unfold grownT; rw [h]

theorem grownT_end {l : List Tk} {s : GSt} (h : gRun l ⟨[], -1, false⟩ = some s) : grownT l = if s.done = true ∧ treeB s.out = true then some s.out else none := by unfold grownT; rw [h]

end Go.Proofs.YteninofjeidljaaGreat

namespace Go.Proofs.YteninofjeidljaaGreat

set_option linter.unusedVariables false

theorem ba_empty {s : ByteArray} (h : s.size = 0) : s = ⟨#[]⟩ := by
  apply ByteArray.ext
  exact Array.eq_empty_of_size_eq_zero h

theorem node_el {ts : List Tk} (h : TreeP ts) {k : Nat} (hk : k < ts.length) (he : ¬ ts[k].name.size = 0) : ts[k] = ⟨parI ts k, ts[k].name, ts[k].attrs, ⟨#[]⟩⟩ ∧ tokB (opT ts[k]) = true ∧ tokB (clT ts[k]) = true := by
  obtain ⟨⟨_, hb⟩, _⟩ := h.2.2.2.2 k hk
  rw [nodeB_el he] at hb
  simp only [Bool.and_eq_true, decide_eq_true_eq] at hb
  obtain ⟨h1, h2, h3⟩ := hb
  refine ⟨?_, ?_, ?_⟩
  · rw [parI_at hk]
    have := ba_empty h3
    cases e : ts[k] with
    | mk a b c d =>
      rw [e] at this
      simp only at this
      rw [this]
  · unfold tokB opT
    simp [h1, h2, show (⟨#[]⟩ : ByteArray).size = 0 from rfl]
  · unfold tokB clT
    simp [h1, show (⟨#[]⟩ : ByteArray).size = 0 from rfl]

theorem node_tx {ts : List Tk} (h : TreeP ts) {k : Nat} (hk : k < ts.length) (he : ts[k].name.size = 0) : ts[k] = ⟨parI ts k, ⟨#[]⟩, [], ts[k].text⟩ ∧ tokB (txT ts[k]) = true ∧ endN ts k = k + 1 ∧ ¬ k = 0 := by
  obtain ⟨⟨_, hb⟩, _⟩ := h.2.2.2.2 k hk
  rw [nodeB_tx he] at hb
  simp only [Bool.and_eq_true, decide_eq_true_eq] at hb
  obtain ⟨h1, h2⟩ := hb
  refine ⟨?_, ?_, ?_, fun e => ?_⟩
  · rw [parI_at hk]
    have e1 := ba_empty he
    have e2 : ts[k].attrs = [] := List.eq_nil_of_length_eq_zero h1
    cases e : ts[k] with
    | mk a b c d =>
      rw [e] at e1 e2
      simp only at e1 e2
      rw [e1, e2]
  · unfold tokB txT
    simp [h2, show (⟨#[]⟩ : ByteArray).size = 0 from rfl]
  · have hle := endN_le hk
    rcases Nat.lt_or_eq_of_le (show k + 1 ≤ endN ts k by omega) with h' | h'
    · exfalso
      have hp := first_kid h hk h'
      rcases h.up (k + 1) (by omega) with h0 | ⟨p, _, e, hpn, hne⟩
      · omega
      · have : p = k := by omega
        subst this
        exact hne he
    · exact h'.symm
  · subst e
    obtain ⟨_, hne⟩ := h.2.2.2.1
    exact hne he

theorem kidsTo_from {ts : List Tk} {k e : Nat} (he : k < e) : kidsTo ts k e = kidsFrom ts k (k + 1) e := by
  unfold kidsTo kidsFrom
  have e1 : List.range e = List.range' 0 (k + 1) ++ List.range' (k + 1) (e - (k + 1)) := by
    have := List.range'_append_1 (s := 0) (m := k + 1) (n := e - (k + 1))
    rw [Nat.zero_add, show k + 1 + (e - (k + 1)) = e by omega] at this
    rw [this, List.range_eq_range']
  rw [e1, List.filter_append]
  have e2 : (List.range' 0 (k + 1)).filter (fun i => decide (k < i) && decide (parI ts i = (k : Int))) = [] := by
    rw [List.filter_eq_nil_iff]
    intro i hi
    rw [List.mem_range'_1] at hi
    simp
    omega
  rw [e2, List.nil_append]
  refine List.filter_congr fun i hi => ?_
  rw [List.mem_range'_1] at hi
  have : decide (k < i) = true := decide_eq_true (by omega)
  rw [this, Bool.true_and]

theorem take_node {ts : List Tk} {k : Nat} (hk : k < ts.length) {t : Tk} (h : ts[k] = t) : ts.take k ++ [t] = ts.take (k + 1) := by rw [take_snocN hk, h]

/-- What a node has been told as grows again. -/
theorem grow_sub {ts : List Tk} (h : TreeP ts) : ∀ f k, k < ts.length → ts.length - k ≤ f → ∀ rest, gRun (tokN ts f k ++ rest) ⟨ts.take k, parI ts k, false⟩ = gRun rest ⟨ts.take (endN ts k), parI ts k, decide (k = 0)⟩
  | 0, k, hk, hf, rest => by omega
  | f + 1, k, hk, hf, rest => by
    have hle := endN_le hk
    have hlk : (ts.take k).length = k := by rw [List.length_take]; omega
    unfold tokN
    rw [nodeAt_at hk]
    by_cases he : ts[k].name.size = 0
    · obtain ⟨n1, n2, n3, n4⟩ := node_tx h hk he
      rw [if_pos he, List.singleton_append, gRun_step (gStep_three n2 rfl rfl), n3]
      simp only [txT]
      rw [take_node hk n1, show decide (k = 0) = false from decide_eq_false n4]
    · obtain ⟨n1, n2, n3⟩ := node_el h hk he
      rw [if_neg he, List.cons_append, gRun_step (gStep_one n2 rfl rfl)]
      simp only [opT]
      rw [take_node hk n1, hlk, List.append_assoc]
      have key : ∀ d e i, endN ts k - e ≤ d → FamAt ts k i e → ∀ rest, gRun ((kidsFrom ts k e (endN ts k)).flatMap (tokN ts f) ++ rest) ⟨ts.take e, (k : Int), false⟩ = gRun rest ⟨ts.take (endN ts k), (k : Int), false⟩ := by
        intro d
        induction d with
        | zero =>
          intro e i hd fa rest
          have : e = endN ts k := by have := fa.hi; omega
          rw [this, kidsFrom_none (fun i g1 g2 => by omega)]
          rfl
        | succ d ih =>
          intro e i hd fa rest
          rcases Nat.lt_or_eq_of_le fa.hi with h' | h'
          · have hlo := fa.lo
            have hp := fa.kid h'
            have hel := endN_le (ts := ts) (k := e) (by omega)
            have hi : i < (kidsN ts k).length := by
              rcases Nat.lt_or_ge i (kidsN ts k).length with q | q
              · exact q
              · exfalso
                have hr := fa.rest
                rw [List.drop_of_length_le q, fam_one h hk hlo h' hp] at hr
                cases hr
            have st := (fa.step h hk hi).2.2.2
            rw [fam_one h hk hlo h' hp, List.flatMap_cons, List.append_assoc]
            have := grow_sub h f e (by omega) (by omega) ((kidsFrom ts k (endN ts e) (endN ts k)).flatMap (tokN ts f) ++ rest)
            rw [hp, show decide (e = 0) = false from decide_eq_false (by omega)] at this
            rw [this]
            exact ih (endN ts e) (i + 1) (by omega) st rest
          · rw [h', kidsFrom_none (fun i g1 g2 => by omega)]
            rfl
      rw [kidsTo_from hle.1, key (endN ts k - (k + 1)) (k + 1) 0 (Nat.le_refl _) (fam_start h hk), List.singleton_append]
      have hkt : k < (ts.take (endN ts k)).length := by rw [List.length_take]; omega
      have hna : nodeAt (ts.take (endN ts k)) k = ts[k] := by rw [nodeAt_at hkt, List.getElem_take]
      have hpa : parI (ts.take (endN ts k)) k = parI ts k := by rw [parI_at hkt, parI_at hk, List.getElem_take]
      rw [gRun_step (gStep_two n3 rfl rfl (by show ¬ (k : Int) < 0; omega) (by show (nodeAt (ts.take (endN ts k)) (k : Int).toNat).name = ts[k].name; rw [Int.toNat_natCast, hna]))]
      simp only [Int.toNat_natCast]
      rw [hpa, show decide ((k : Int) = 0) = decide (k = 0) from by rw [decide_eq_decide]; omega]

theorem tree_end {ts : List Tk} (h : TreeP ts) : endN ts 0 = ts.length := by
  have h1 := h.1
  refine endN_is (by omega) (Nat.le_refl _) (fun j g1 g2 => ?_) (.inl rfl)
  rcases h.up j g2 with h0 | ⟨p, _, e, _⟩
  · omega
  · rw [← e]
    omega

/-- Grown of TokensOf is the tree. -/
theorem grown_toks {ts : List Tk} (h : TreeP ts) : grownT (tokN ts ts.length 0) = some ts := by
  have h1 := h.1
  have e := grow_sub h ts.length 0 (by omega) (by omega) []
  rw [List.append_nil, h.2.2.1, tree_end h, List.take_zero, List.take_length] at e
  have e2 : gRun [] ⟨ts, -1, decide (0 = 0)⟩ = some ⟨ts, -1, true⟩ := rfl
  rw [e2] at e
  rw [grownT_end e]
  exact if_pos ⟨rfl, treeB_t h⟩

end Go.Proofs.YteninofjeidljaaGreat

namespace Go.Proofs.YteninofjeidljaaGreat

set_option linter.unusedVariables false

theorem nameL_nil : nameL [] = false := by decide

theorem name_ne {s : ByteArray} (h : nameL s.data.toList = true) : ¬ s.size = 0 := by
  intro e
  rw [ba_empty e] at h
  have : nameL [] = true := h
  rw [nameL_nil] at this
  cases this

/-- A right token, by its kind. -/
theorem tok_form {k : Tk} (h : tokB k = true) : (k = opT k ∧ ¬ k.name.size = 0) ∨ k = clT k ∨ k = txT k := by
  unfold tokB at h
  obtain ⟨a, b, c, d⟩ := k
  simp only at h
  split at h
  · rename_i e
    simp only [Bool.and_eq_true, decide_eq_true_eq] at h
    have e2 := ba_empty h.2.2
    subst e e2
    exact .inl ⟨rfl, name_ne h.1⟩
  · split at h
    · rename_i e
      simp only [Bool.and_eq_true, decide_eq_true_eq] at h
      have e2 := ba_empty h.2.2
      have e3 : c = [] := List.eq_nil_of_length_eq_zero h.2.1
      subst e e2 e3
      exact .inr (.inl rfl)
    · split at h
      · rename_i e
        simp only [Bool.and_eq_true, decide_eq_true_eq] at h
        have e2 := ba_empty h.1
        have e3 : c = [] := List.eq_nil_of_length_eq_zero h.2.1
        subst e e2 e3
        exact .inr (.inr rfl)
      · cases h

theorem gStep_cases {s s2 : GSt} {k : Tk} (h : gStep s k = some s2) : s.done = false ∧
    ((k = opT k ∧ ¬ k.name.size = 0 ∧ s2 = ⟨s.out ++ [⟨s.at_, k.name, k.attrs, ⟨#[]⟩⟩], (s.out.length : Int), false⟩) ∨ (k = txT k ∧ s2 = ⟨s.out ++ [⟨s.at_, ⟨#[]⟩, [], k.text⟩], s.at_, false⟩)
      ∨ (k = clT k ∧ ¬ s.at_ < 0 ∧ (nodeAt s.out s.at_.toNat).name = k.name ∧ s2 = ⟨s.out, parI s.out s.at_.toNat, decide (s.at_ = 0)⟩)) := by
  cases q : tokB k
  · rw [gStep_no (.inl q)] at h
    cases h
  · cases d : s.done
    · refine ⟨rfl, ?_⟩
      rcases tok_form q with ⟨e, ne⟩ | e | e
      · rw [gStep_one q d (by rw [e]; rfl)] at h
        cases h
        exact .inl ⟨e, ne, rfl⟩
      · have ek : k.kind = 2 := by rw [e]; rfl
        by_cases hh : s.at_ < 0 ∨ ¬ (nodeAt s.out s.at_.toNat).name = k.name
        · rw [gStep_no2 ek hh] at h
          cases h
        · have h1 : ¬ s.at_ < 0 := fun x => hh (.inl x)
          have h2 : (nodeAt s.out s.at_.toNat).name = k.name := by
            by_cases x : (nodeAt s.out s.at_.toNat).name = k.name
            · exact x
            · exact absurd (.inr x) hh
          rw [gStep_two q d ek h1 h2] at h
          cases h
          exact .inr (.inr ⟨e, h1, h2, rfl⟩)
      · rw [gStep_three q d (by rw [e]; rfl)] at h
        cases h
        exact .inr (.inl ⟨e, rfl⟩)
    · rw [gStep_no (.inr d)] at h
      cases h

theorem gStep_inv {s s2 : GSt} {k : Tk} (h : gStep s k = some s2) (hi : GInv s) : GInv s2 := by
  obtain ⟨_, h' | h' | h'⟩ := gStep_cases h
  · rw [h'.2.2]
    exact hi.snoc _ rfl _ _ (by omega) (by omega)
  · rw [h'.2]
    exact hi.snoc _ rfl _ _ hi.lo (by have := hi.hi; omega)
  · rw [h'.2.2.2]
    exact hi.up h'.2.1 _

theorem gRun_cases {l : List Tk} {k : Tk} {s s1 : GSt} (h : gRun (k :: l) s = some s1) : ∃ s2, gStep s k = some s2 ∧ gRun l s2 = some s1 := by
  cases e : gStep s k with
  | none => rw [gRun_bad e] at h; cases h
  | some s2 => exact ⟨s2, rfl, by rw [gRun_step e] at h; exact h⟩

theorem gRun_grow : ∀ (l : List Tk) (s s1 : GSt), gRun l s = some s1 → ∃ t, s1.out = s.out ++ t
  | [], s, s1, h => by cases h; exact ⟨[], (List.append_nil _).symm⟩
  | k :: l, s, s1, h => by
    obtain ⟨s2, h1, h2⟩ := gRun_cases h
    obtain ⟨t, ht⟩ := gRun_grow l s2 s1 h2
    obtain ⟨_, h' | h' | h'⟩ := gStep_cases h1
    · rw [h'.2.2] at ht
      exact ⟨_ :: t, by rw [ht, List.append_assoc]; rfl⟩
    · rw [h'.2] at ht
      exact ⟨_ :: t, by rw [ht, List.append_assoc]; rfl⟩
    · rw [h'.2.2.2] at ht
      exact ⟨t, ht⟩

/-- The next node that grows is in what is open now, or further out. -/
theorem next_par : ∀ (l : List Tk) (s s1 : GSt), GInv s → gRun l s = some s1 → ∀ h : s.out.length < s1.out.length, s1.out[s.out.length].kind ≤ s.at_
  | [], s, s1, _, h, hl => by cases h; omega
  | k :: l, s, s1, hi, h, hl => by
    obtain ⟨s2, h1, h2⟩ := gRun_cases h
    obtain ⟨t, ht⟩ := gRun_grow l s2 s1 h2
    have hi2 := gStep_inv h1 hi
    obtain ⟨_, h' | h' | h'⟩ := gStep_cases h1
    · rw [h'.2.2] at ht
      have e : s1.out[s.out.length]? = some ⟨s.at_, k.name, k.attrs, ⟨#[]⟩⟩ := by rw [ht]; simp
      rw [List.getElem?_eq_getElem hl] at e
      rw [Option.some.inj e]
      exact Int.le_refl _
    · rw [h'.2] at ht
      have e : s1.out[s.out.length]? = some ⟨s.at_, ⟨#[]⟩, [], k.text⟩ := by rw [ht]; simp
      rw [List.getElem?_eq_getElem hl] at e
      rw [Option.some.inj e]
      exact Int.le_refl _
    · have e2 := h'.2.2.2
      have hk : s.at_.toNat < s.out.length := by have := hi.hi; have := h'.2.1; omega
      have hp := (hi.par _ hk).2
      have hlen : s2.out = s.out := by rw [e2]
      have ha : s2.at_ = parI s.out s.at_.toNat := by rw [e2]
      have := next_par l s2 s1 hi2 h2 (by rw [hlen]; exact hl)
      simp only [hlen] at this
      rw [ha, parI_at hk] at this
      have := h'.2.1
      omega

/-- Two lists of tokens from which the same grows are one. -/
theorem grow_inj : ∀ (l l' : List Tk) (s s1 s1' : GSt), GInv s → gRun l s = some s1 → gRun l' s = some s1' → s1.out = s1'.out → s1.done = true → s1'.done = true → l = l'
  | [], [], _, _, _, _, _, _, _, _, _ => rfl
  | [], k' :: l', s, s1, s1', hi, h, h', ho, hd, hd' => by
    cases h
    obtain ⟨s2, h1, _⟩ := gRun_cases h'
    rw [gStep_no (.inr hd)] at h1
    cases h1
  | k :: l, [], s, s1, s1', hi, h, h', ho, hd, hd' => by
    cases h'
    obtain ⟨s2, h1, _⟩ := gRun_cases h
    rw [gStep_no (.inr hd')] at h1
    cases h1
  | k :: l, k' :: l', s, s1, s1', hi, h, h', ho, hd, hd' => by
    obtain ⟨s2, h1, h2⟩ := gRun_cases h
    obtain ⟨s2', h1', h2'⟩ := gRun_cases h'
    obtain ⟨t, ht⟩ := gRun_grow l s2 s1 h2
    obtain ⟨t', ht'⟩ := gRun_grow l' s2' s1' h2'
    have hi2 := gStep_inv h1 hi
    have hi2' := gStep_inv h1' hi
    have go : k = k' → s2 = s2' → k :: l = k' :: l' := fun e1 e2 => by
      subst e1 e2
      rw [grow_inj l l' s2 s1 s1' hi2 h2 h2' ho hd hd']
    -- a node grows on the one side, something is closed on the other
    have no : ∀ (S S2 : GSt) (L : List Tk) (n : Tk), S.out = s1.out → gRun L S2 = some S → GInv S2 → S2.out = s.out → ¬ s.at_ < 0 → S2.at_ = parI s.out s.at_.toNat → s1.out[s.out.length]? = some n → n.kind = s.at_ → False := by
      intro S S2 L n hS hr hI hO h0 hA hn hk
      have hl : s.out.length < s1.out.length := (List.getElem?_eq_some_iff.1 hn).1
      have := next_par L S2 S hI hr (by rw [hO, hS]; exact hl)
      simp only [hO, hS] at this
      rw [List.getElem?_eq_getElem hl] at hn
      rw [Option.some.inj hn, hk, hA] at this
      have hq : s.at_.toNat < s.out.length := by have := hi.hi; omega
      have hp := (hi.par _ hq).2
      rw [parI_at hq] at this
      omega
    obtain ⟨_, g | g | g⟩ := gStep_cases h1 <;> obtain ⟨_, g' | g' | g'⟩ := gStep_cases h1'
    · have e : s1.out[s.out.length]? = some ⟨s.at_, k.name, k.attrs, ⟨#[]⟩⟩ := by rw [ht, g.2.2]; simp
      have e' : s1.out[s.out.length]? = some ⟨s.at_, k'.name, k'.attrs, ⟨#[]⟩⟩ := by rw [ho, ht', g'.2.2]; simp
      rw [e] at e'
      injection e' with e'
      injection e' with _ q1 q2 _
      refine go ?_ ?_
      · rw [g.1, g'.1]; unfold opT; rw [q1, q2]
      · rw [g.2.2, g'.2.2, q1, q2]
    · exfalso
      have e : s1.out[s.out.length]? = some ⟨s.at_, k.name, k.attrs, ⟨#[]⟩⟩ := by rw [ht, g.2.2]; simp
      have e' : s1.out[s.out.length]? = some ⟨s.at_, ⟨#[]⟩, [], k'.text⟩ := by rw [ho, ht', g'.2]; simp
      rw [e] at e'
      injection e' with e'
      injection e' with _ q1 _ _
      exact g.2.1 (by rw [q1]; rfl)
    · exfalso
      have e : s1.out[s.out.length]? = some ⟨s.at_, k.name, k.attrs, ⟨#[]⟩⟩ := by rw [ht, g.2.2]; simp
      exact no s1' s2' l' _ ho.symm h2' hi2' (by rw [g'.2.2.2]) g'.2.1 (by rw [g'.2.2.2]) e rfl
    · exfalso
      have e : s1.out[s.out.length]? = some ⟨s.at_, ⟨#[]⟩, [], k.text⟩ := by rw [ht, g.2]; simp
      have e' : s1.out[s.out.length]? = some ⟨s.at_, k'.name, k'.attrs, ⟨#[]⟩⟩ := by rw [ho, ht', g'.2.2]; simp
      rw [e] at e'
      injection e' with e'
      injection e' with _ q1 _ _
      exact g'.2.1 (by rw [← q1]; rfl)
    · have e : s1.out[s.out.length]? = some ⟨s.at_, ⟨#[]⟩, [], k.text⟩ := by rw [ht, g.2]; simp
      have e' : s1.out[s.out.length]? = some ⟨s.at_, ⟨#[]⟩, [], k'.text⟩ := by rw [ho, ht', g'.2]; simp
      rw [e] at e'
      injection e' with e'
      injection e' with _ _ _ q1
      refine go ?_ ?_
      · rw [g.1, g'.1]; unfold txT; rw [q1]
      · rw [g.2, g'.2, q1]
    · exfalso
      have e : s1.out[s.out.length]? = some ⟨s.at_, ⟨#[]⟩, [], k.text⟩ := by rw [ht, g.2]; simp
      exact no s1' s2' l' _ ho.symm h2' hi2' (by rw [g'.2.2.2]) g'.2.1 (by rw [g'.2.2.2]) e rfl
    · exfalso
      have e : s1.out[s.out.length]? = some ⟨s.at_, k'.name, k'.attrs, ⟨#[]⟩⟩ := by rw [ho, ht', g'.2.2]; simp
      exact no s1 s2 l _ rfl h2 hi2 (by rw [g.2.2.2]) g.2.1 (by rw [g.2.2.2]) e rfl
    · exfalso
      have e : s1.out[s.out.length]? = some ⟨s.at_, ⟨#[]⟩, [], k'.text⟩ := by rw [ho, ht', g'.2]; simp
      exact no s1 s2 l _ rfl h2 hi2 (by rw [g.2.2.2]) g.2.1 (by rw [g.2.2.2]) e rfl
    · refine go ?_ ?_
      · rw [g.1, g'.1]; unfold clT; rw [← g.2.2.1, ← g'.2.2.1]
      · rw [g.2.2.2, g'.2.2.2]

/-- TokensOf of Grown are the tokens. -/
theorem toks_grown {l ts : List Tk} (h : grownT l = some ts) : TreeP ts ∧ tokN ts ts.length 0 = l := by
  unfold grownT at h
  split at h
  · cases h
  · rename_i s hs
    split at h
    · rename_i hh
      cases h
      have ht : TreeP s.out := by
        by_cases q : TreeP s.out
        · exact q
        · rw [treeB_f q] at hh
          cases hh.2
      refine ⟨ht, ?_⟩
      have h1 := ht.1
      have e := grow_sub ht s.out.length 0 (by omega) (by omega) []
      rw [List.append_nil, ht.2.2.1, tree_end ht, List.take_zero, List.take_length] at e
      have e2 : gRun [] ⟨s.out, -1, decide (0 = 0)⟩ = some ⟨s.out, -1, true⟩ := rfl
      rw [e2] at e
      exact grow_inj _ _ _ _ _ GInv.start e hs rfl rfl hh.1
    · cases h

end Go.Proofs.YteninofjeidljaaGreat
