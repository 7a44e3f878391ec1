/- Families (plain mathematics of promise 8): a kid ends where the next one begins, the first stands right behind, the last ends where its parent ends. A branch is a tree by itself (mathematics alone). A tree without a node and all it has (mathematics alone). -/
import Derived.Test.YtcjeodgfpnecgaaGreatDoorM29
import Derived.Test.YtcjeodgfpnecgaaGreatDoorM8
import Derived.Test.YtcjeodgfpnecgaaGreatDoorM14
namespace Go.Proofs.YtcjeodgfpnecgaaGreatDoor
set_option linter.unusedVariables false

theorem TreeP.up {ts : List Tk} (h : TreeP ts) (j : Nat) (hj : j < ts.length) : UpOk ts j := (h.2.2.2.2 j hj).2.1

theorem TreeP.linked {ts : List Tk} (h : TreeP ts) (m : Nat) (hm : m < ts.length) : Linked ts (chainF ts (m + 1)) ∧ ∀ p ∈ chainF ts (m + 1), p < m + 1 := linked_all m (fun j hj => h.up j (by omega))

theorem endN_in {ts : List Tk} {k e : Nat} (hk : k < ts.length) (he : k < e) (h : e < endN ts k) : (k : Int) ≤ parI ts e := by
  by_cases q : (k : Int) ≤ parI ts e
  · exact q
  · have h2 := endN_le hk
    have := endN_min hk he (fun _ => by omega) (by omega)
    omega

theorem mem_drop {ts : List Tk} : ∀ {c : List Nat}, Linked ts c → ∀ p q, p ∈ c → q ∈ c → q ≤ p → q ∈ c.dropWhile (fun (j : Nat) => !decide ((j : Int) = (p : Int)))
  | [], h, p, q, hp, _, _ => absurd hp (by simp)
  | [x], h, p, q, hp, hq, _ => by
    rw [List.mem_singleton] at hp hq
    subst hp hq
    simp
  | x :: y :: r, h, p, q, hp, hq, hle => by
    by_cases e : x = p
    · subst e
      simpa using hq
    · have hp' : p ∈ y :: r := by
        rcases List.mem_cons.1 hp with h' | h'
        · exact absurd h'.symm e
        · exact h'
      have h1 := Linked.le h.tail p hp'
      have h2 := h.2.1
      have hq' : q ∈ y :: r := by
        rcases List.mem_cons.1 hq with h' | h'
        · omega
        · exact h'
      rw [List.dropWhile_cons, if_pos (by simp; omega)]
      exact mem_drop h.tail p q hp' hq' hle

theorem below_par {ts : List Tk} : ∀ {l : List Nat}, Linked ts l → ∀ c q, c ∈ l → q ∈ l → q < c → (q : Int) ≤ parI ts c
  | [], h, c, q, hc, _, _ => absurd hc (by simp)
  | [x], h, c, q, hc, hq, hlt => by
    rw [List.mem_singleton] at hc hq
    omega
  | x :: y :: r, h, c, q, hc, hq, hlt => by
    by_cases e : c = x
    · subst e
      have hq' : q ∈ y :: r := by
        rcases List.mem_cons.1 hq with h' | h'
        · omega
        · exact h'
      have h1 := Linked.le h.tail q hq'
      rw [h.1]
      omega
    · have hc' : c ∈ y :: r := by
        rcases List.mem_cons.1 hc with h' | h'
        · exact absurd h' e
        · exact h'
      have h1 := Linked.le h.tail c hc'
      have h2 := h.2.1
      have hq' : q ∈ y :: r := by
        rcases List.mem_cons.1 hq with h' | h'
        · omega
        · exact h'
      exact below_par h.tail c q hc' hq' hlt

/-- All that a node has lies in it. -/
theorem in_chain {ts : List Tk} (h : TreeP ts) {c : Nat} (hc : c < ts.length) : ∀ d, c + d < endN ts c → c ∈ chainF ts (c + d + 1)
  | 0, _ => by
    obtain ⟨r, e⟩ := chain_head ts c
    rw [Nat.add_zero, e]
    exact List.mem_cons_self ..
  | d + 1, hd => by
    have hle := endN_le hc
    have ih := in_chain h hc d (by omega)
    have hpar := endN_in hc (show c < c + (d + 1) by omega) hd
    obtain ⟨hL, _⟩ := h.linked (c + d) (by omega)
    rcases h.up (c + (d + 1)) (by omega) with h0 | ⟨p, hp, e, _⟩
    · omega
    · rw [← e] at hpar
      have hm := mem_drop hL p c hp ih (by omega)
      show c ∈ (c + (d + 1)) :: (chainF ts (c + (d + 1))).dropWhile (fun (j : Nat) => !decide ((j : Int) = parI ts (c + (d + 1))))
      rw [← e]
      exact List.mem_cons_of_mem _ hm

/-- Where a kid ends and more is to come, the next one begins. -/
theorem next_kid {ts : List Tk} (h : TreeP ts) {k c : Nat} (hk : k < ts.length) (hc : k < c) (hce : c < endN ts k) (hp : parI ts c = (k : Int)) (hj : endN ts c < endN ts k) : parI ts (endN ts c) = (k : Int) := by
  have hle := endN_le hk
  have hcl := endN_le (ts := ts) (k := c) (by omega)
  have hlow := endN_in hk (show k < endN ts c by omega) hj
  have hup : parI ts (endN ts c) < (c : Int) := by
    rcases endN_stop (ts := ts) (k := c) (by omega) with h' | h'
    · omega
    · exact h'
  have hin := in_chain h (show c < ts.length by omega) (endN ts c - c - 1) (by omega)
  rw [show c + (endN ts c - c - 1) + 1 = endN ts c by omega] at hin
  have hL := (h.linked (endN ts c - 1) (by omega)).1
  rw [show endN ts c - 1 + 1 = endN ts c by omega] at hL
  rcases h.up (endN ts c) (by omega) with h0 | ⟨p, hpm, e, _⟩
  · omega
  · rw [← e] at hlow hup ⊢
    have := below_par hL c p hin hpm (by omega)
    rw [hp] at this
    omega

theorem first_kid {ts : List Tk} (h : TreeP ts) {k : Nat} (hk : k < ts.length) (he : k + 1 < endN ts k) : parI ts (k + 1) = (k : Int) := by
  have hle := endN_le hk
  have hlow := endN_in hk (show k < k + 1 by omega) he
  rcases h.up (k + 1) (by omega) with h0 | ⟨p, hpm, e, _⟩
  · omega
  · have := (h.linked k hk).2 p hpm
    rw [← e] at hlow ⊢
    omega

/-- Behind its end nothing is its kid. -/
theorem out_chain {ts : List Tk} (h : TreeP ts) {k : Nat} (hk : k < ts.length) : ∀ d, endN ts k + d < ts.length → ¬ k ∈ chainF ts (endN ts k + d + 1)
  | 0, hd => by
    have hle := endN_le hk
    intro hm
    have hup : parI ts (endN ts k) < (k : Int) := by
      rcases endN_stop hk with h' | h'
      · omega
      · exact h'
    have hL := h.linked (endN ts k - 1) (by omega)
    rw [show endN ts k - 1 + 1 = endN ts k by omega] at hL
    obtain ⟨hl2, p, r, e, ep, _⟩ := linked_next hL.1 (h.up (endN ts k) (by omega)) (by omega) hL.2
    rw [Nat.add_zero, e] at hm
    rw [e] at hl2
    rcases List.mem_cons.1 hm with h' | h'
    · omega
    · have := Linked.le hl2.tail k h'
      omega
  | d + 1, hd => by
    have hle := endN_le hk
    have ih := out_chain h hk d (by omega)
    intro hm
    have hm : k ∈ (endN ts k + (d + 1)) :: (chainF ts (endN ts k + d + 1)).dropWhile (fun (j : Nat) => !decide ((j : Int) = parI ts (endN ts k + (d + 1)))) := hm
    rcases List.mem_cons.1 hm with h' | h'
    · omega
    · exact ih ((List.dropWhile_sublist _).mem h')

theorem no_kid {ts : List Tk} (h : TreeP ts) {k i : Nat} (hk : k < ts.length) (hi : endN ts k ≤ i) (hn : i < ts.length) : ¬ parI ts i = (k : Int) := by
  have hle := endN_le hk
  intro e
  rcases Nat.lt_or_eq_of_le hi with h' | h'
  · rcases h.up i hn with h0 | ⟨p, hpm, ep, _⟩
    · omega
    · have : p = k := by omega
      subst this
      have := out_chain h hk (i - endN ts p - 1) (by omega)
      rw [show endN ts p + (i - endN ts p - 1) + 1 = i by omega] at this
      exact this hpm
  · subst h'
    rcases endN_stop hk with h' | h'
    · omega
    · omega

/-- Kids from e on. -/
def kidsFrom (ts : List Tk) (k e E : Nat) : List Nat := (List.range' e (E - e)).filter fun i => decide (parI ts i = (k : Int))

theorem kidsFrom_split {ts : List Tk} {k a b c : Nat} (h1 : a ≤ b) (h2 : b ≤ c) : kidsFrom ts k a c = kidsFrom ts k a b ++ kidsFrom ts k b c := by
  unfold kidsFrom
  rw [← List.filter_append]
  congr 1
  have := List.range'_append_1 (s := a) (m := b - a) (n := c - b)
  rw [show a + (b - a) = b by omega, show b - a + (c - b) = c - a by omega] at this
  exact this.symm

theorem kidsFrom_none {ts : List Tk} {k a b : Nat} (h : ∀ i, a ≤ i → i < b → ¬ parI ts i = (k : Int)) : kidsFrom ts k a b = [] := by
  unfold kidsFrom
  rw [List.filter_eq_nil_iff]
  intro i hi
  rw [List.mem_range'_1] at hi
  simpa using h i hi.1 (by omega)

theorem kidsN_from {ts : List Tk} {k : Nat} (hk : k < ts.length) : kidsN ts k = kidsFrom ts k (k + 1) ts.length := by
  unfold kidsN kidsTo kidsFrom
  have e : List.range ts.length = List.range' 0 (k + 1) ++ List.range' (k + 1) (ts.length - (k + 1)) := by
    have := List.range'_append_1 (s := 0) (m := k + 1) (n := ts.length - (k + 1))
    rw [Nat.zero_add, show k + 1 + (ts.length - (k + 1)) = ts.length by omega] at this
    rw [this, List.range_eq_range']
  rw [e, List.filter_append]
  have e1 : (List.range' 0 (k + 1)).filter (fun i => decide (k < i) && decide (parI ts i = (k : Int))) = [] := by
    rw [List.filter_eq_nil_iff]
    intro i hi
    rw [List.mem_range'_1] at hi
    simp
    omega
  rw [e1, List.nil_append]
  refine List.filter_congr fun i hi => ?_
  rw [List.mem_range'_1] at hi
  have : decide (k < i) = true := decide_eq_true (by omega)
  rw [this, Bool.true_and]

/-- Where the i-th kid begins, or all ends. -/
structure FamAt (ts : List Tk) (k i e : Nat) : Prop where
  lo : k < e
  hi : e ≤ endN ts k
  kid : e < endN ts k → parI ts e = (k : Int)
  rest : kidsFrom ts k e (endN ts k) = (kidsN ts k).drop i

theorem fam_start {ts : List Tk} (h : TreeP ts) {k : Nat} (hk : k < ts.length) : FamAt ts k 0 (k + 1) := by
  have hle := endN_le hk
  refine ⟨by omega, by omega, fun he => first_kid h hk he, ?_⟩
  rw [List.drop_zero, kidsN_from hk, kidsFrom_split (show k + 1 ≤ endN ts k by omega) hle.2, kidsFrom_none (a := endN ts k) (fun i h1 h2 => no_kid h hk h1 h2), List.append_nil]

theorem fam_one {ts : List Tk} (h : TreeP ts) {k e : Nat} (hk : k < ts.length) (h1 : k < e) (h2 : e < endN ts k) (h3 : parI ts e = (k : Int)) : kidsFrom ts k e (endN ts k) = e :: kidsFrom ts k (endN ts e) (endN ts k) := by
  have hle := endN_le hk
  have hel := endN_le (ts := ts) (k := e) (by omega)
  have hke := (kid_end hk h1 h2).1
  rw [kidsFrom_split (show e ≤ e + 1 by omega) (show e + 1 ≤ endN ts k by omega), kidsFrom_split (show e + 1 ≤ endN ts e by omega) hke]
  have e1 : kidsFrom ts k e (e + 1) = [e] := by
    unfold kidsFrom
    rw [show e + 1 - e = 1 by omega]
    simp [h3]
  have e2 : kidsFrom ts k (e + 1) (endN ts e) = [] := kidsFrom_none (fun i g1 g2 => by
    have := endN_in (ts := ts) (k := e) (by omega) (show e < i by omega) g2
    omega)
  rw [e1, e2, List.nil_append]
  rfl

theorem FamAt.step {ts : List Tk} (h : TreeP ts) {k i e : Nat} (hk : k < ts.length) (f : FamAt ts k i e) (hi : i < (kidsN ts k).length) :
    (kidsN ts k)[i] = e ∧ e < endN ts k ∧ parI ts e = (k : Int) ∧ FamAt ts k (i + 1) (endN ts e) := by
  have hle := endN_le hk
  have hr := f.rest
  rw [List.drop_eq_getElem_cons hi] at hr
  have hlt : e < endN ts k := by
    rcases Nat.lt_or_eq_of_le f.hi with h' | h'
    · exact h'
    · rw [h', kidsFrom_none (fun i g1 g2 => by omega)] at hr
      cases hr
  have hp := f.kid hlt
  rw [fam_one h hk f.lo hlt hp] at hr
  injection hr with e1 e2
  have hel := endN_le (ts := ts) (k := e) (by omega)
  exact ⟨e1.symm, hlt, hp, ⟨by have := f.lo; omega, (kid_end hk f.lo hlt).1, fun hj => next_kid h hk f.lo hlt hp hj, e2⟩⟩

theorem FamAt.fin {ts : List Tk} (h : TreeP ts) {k i e : Nat} (hk : k < ts.length) (f : FamAt ts k i e) (hi : i = (kidsN ts k).length) : e = endN ts k := by
  rcases Nat.lt_or_eq_of_le f.hi with h' | h'
  · have hr := f.rest
    rw [fam_one h hk f.lo h' (f.kid h'), hi, List.drop_length] at hr
    cases hr
  · exact h'

end Go.Proofs.YtcjeodgfpnecgaaGreatDoor

namespace Go.Proofs.YtcjeodgfpnecgaaGreatDoor
open Go.RowKit
set_option linter.unusedVariables false

theorem drop_none {p : Nat → Bool} : ∀ {l : List Nat}, l.dropWhile p = [] → ∀ x ∈ l, p x = true
  | [], _, x, hx => absurd hx List.not_mem_nil
  | y :: l, h, x, hx => by
    rw [List.dropWhile_cons] at h
    split at h
    · rename_i hy
      rcases List.mem_cons.1 hx with rfl | h'
      · exact hy
      · exact drop_none h x h'
    · cases h

section
variable {ts : List Tk} {k : Nat}

theorem branch_at (hk : k < ts.length) {j : Nat} (hj : k + j < endN ts k) {t : Tk} (ht : ts[k + j]? = some t) : (branchL ts k)[j]? = some (shK (if j = 0 then -1 else t.kind - (k : Int)) t) := by
  have h := endN_le hk
  unfold branchL
  rw [segN_get _ (by omega) j (by omega) t ht]
  unfold brF
  by_cases e : j = 0
  · subst e
    rw [if_pos (Nat.add_zero k), if_pos rfl]
  · rw [if_neg (by omega), if_neg e]

theorem branch_get (hk : k < ts.length) {j : Nat} (hj : k + j < endN ts k) : ∃ (h1 : k + j < ts.length) (h2 : j < (branchL ts k).length), (branchL ts k)[j] = shK (if j = 0 then -1 else ts[k + j].kind - (k : Int)) ts[k + j] := by
  have h := endN_le hk
  have h1 : k + j < ts.length := by omega
  have h2 : j < (branchL ts k).length := by rw [branchL_len hk]; omega
  refine ⟨h1, h2, ?_⟩
  have e := branch_at hk hj (List.getElem?_eq_getElem h1)
  rw [List.getElem?_eq_getElem h2] at e
  exact Option.some.inj e

theorem branch_par (hk : k < ts.length) {j : Nat} (hj : k + j < endN ts k) : parI (branchL ts k) j = if j = 0 then -1 else parI ts (k + j) - (k : Int) := by
  have h := endN_le hk
  have ht := List.getElem?_eq_getElem (show k + j < ts.length by omega)
  unfold parI
  rw [branch_at hk hj ht, ht]
  rfl

/-- What is open within, and what is open around. -/
theorem chain_branch (hT : TreeP ts) (hk : k < ts.length) : ∀ j, k + j < endN ts k → chainF ts (k + j + 1) = (chainF (branchL ts k) (j + 1)).map (fun x => k + x) ++ (chainF ts (k + 1)).tail
  | 0, _ => by
    show chainF ts (k + 1) = (List.map (fun x => k + x) [0]) ++ _
    obtain ⟨r, e⟩ := chain_head ts k
    rw [e]
    rfl
  | j + 1, hj => by
    have hle := endN_le hk
    have ih := chain_branch hT hk j (by omega)
    have hup := hT.up (k + (j + 1)) (by omega)
    have hin : (k : Int) ≤ parI ts (k + (j + 1)) := endN_in hk (by omega) hj
    rcases hup with h0 | ⟨p, hp, hpp, _⟩
    · omega
    · have hpk : k ≤ p := by omega
      have e1 : chainF ts (k + (j + 1) + 1) = (k + (j + 1)) :: (chainF ts (k + j + 1)).dropWhile (fun (x : Nat) => !decide ((x : Int) = parI ts (k + (j + 1)))) := rfl
      have e2 : chainF (branchL ts k) (j + 1 + 1) = (j + 1) :: (chainF (branchL ts k) (j + 1)).dropWhile (fun (x : Nat) => !decide ((x : Int) = parI (branchL ts k) (j + 1))) := rfl
      have e3 : parI (branchL ts k) (j + 1) = parI ts (k + (j + 1)) - (k : Int) := by rw [branch_par hk hj, if_neg (by omega)]
      have hR : ∀ x ∈ (chainF ts (k + 1)).tail, x < k := by
        intro x hx
        obtain ⟨r, e⟩ := chain_head ts k
        rw [e] at hx
        have hL := (hT.linked k hk).1
        rw [e] at hL
        match r, hL, hx with
        | y :: r', hL, hx =>
          have h1 := hL.2.1
          have h2 := hL.tail.le x hx
          omega
      have hm : p ∈ (chainF (branchL ts k) (j + 1)).map (fun x => k + x) := by
        have hp' : p ∈ chainF ts (k + j + 1) := hp
        rw [ih] at hp'
        rcases List.mem_append.1 hp' with h' | h'
        · exact h'
        · have := hR p h'; omega
      rw [e1, e2, ih, List.map_cons, List.cons_append, e3]
      congr 1
      rw [List.dropWhile_append, List.dropWhile_map]
      have ef : ((fun (x : Nat) => !decide ((x : Int) = parI ts (k + (j + 1)))) ∘ fun x => k + x) = fun (x : Nat) => !decide ((x : Int) = parI ts (k + (j + 1)) - (k : Int)) := by
        funext x
        show (!decide (((k + x : Nat) : Int) = _)) = _
        congr 1
        apply decide_eq_decide.2
        omega
      rw [ef, if_neg]
      intro hemp
      obtain ⟨q, hq, e⟩ := List.mem_map.1 hm
      have hne : (chainF (branchL ts k) (j + 1)).dropWhile (fun (x : Nat) => !decide ((x : Int) = parI ts (k + (j + 1)) - (k : Int))) = [] := by
        simpa using hemp
      have hall := drop_none hne q hq
      simp only [Bool.not_eq_true', decide_eq_false_iff_not] at hall
      apply hall
      omega

/-- A branch is a tree by itself. -/
theorem branch_tree (hT : TreeP ts) (hk : k < ts.length) (he : elN ts k) : TreeP (branchL ts k) := by
  have hle := endN_le hk
  have hlen := branchL_len hk
  have h50 := hT.2.1
  refine ⟨by omega, by omega, by rw [branch_par hk (by omega)]; rfl, ?_, fun j hj => ?_⟩
  · obtain ⟨h1, h2, e⟩ := branch_get hk (j := 0) (by omega)
    refine ⟨h2, ?_⟩
    rw [e]
    exact he.2
  · have hje : k + j < endN ts k := by omega
    obtain ⟨h1, h2, e⟩ := branch_get hk hje
    obtain ⟨⟨_, n1⟩, n2, n3, n4⟩ := hT.2.2.2.2 (k + j) h1
    refine ⟨⟨h2, ?_⟩, ?_, ?_, ?_⟩
    · rw [e]
      exact n1
    · by_cases h0 : j = 0
      · exact .inl h0
      · right
        obtain ⟨i, rfl⟩ : ∃ i, j = i + 1 := ⟨j - 1, by omega⟩
        have hin : (k : Int) ≤ parI ts (k + (i + 1)) := endN_in hk (by omega) hje
        rcases n2 with n2 | ⟨p, p1, p2, p3⟩
        · omega
        · have hc := chain_branch hT hk i (by omega)
          have p1' : p ∈ chainF ts (k + i + 1) := p1
          rw [hc] at p1'
          have hR : ∀ x ∈ (chainF ts (k + 1)).tail, x < k := by
            intro x hx
            obtain ⟨r, e⟩ := chain_head ts k
            rw [e] at hx
            have hL := (hT.linked k hk).1
            rw [e] at hL
            match r, hL, hx with
            | y :: r', hL, hx =>
              have h1 := hL.2.1
              have h2 := hL.tail.le x hx
              omega
          rcases List.mem_append.1 p1' with h' | h'
          · obtain ⟨q, hq, rfl⟩ := List.mem_map.1 h'
            have hqi : k + q < k + (i + 1) := by
              have := (hT.linked (k + i) (by omega)).2 (k + q) (by rw [hc]; exact List.mem_append.2 (.inl h'))
              omega
            refine ⟨q, hq, by rw [branch_par hk hje, if_neg (by omega)]; omega, ?_⟩
            obtain ⟨g1, g2, g3⟩ := branch_get hk (j := q) (by omega)
            obtain ⟨_, p4⟩ := p3
            exact ⟨g2, by rw [g3]; exact p4⟩
          · have := hR p h'
            omega
    · have hc := chain_branch hT hk j hje
      have := congrArg List.length hc
      rw [List.length_append, List.length_map] at this
      omega
    · rintro ⟨g1, g2, g3, g4, g5⟩
      obtain ⟨i, rfl⟩ : ∃ i, j = i + 1 := ⟨j - 1, by omega⟩
      obtain ⟨m1, m2, m3⟩ := branch_get hk (j := i) (by omega)
      have g4' : ((branchL ts k)[i]).name.size = 0 := g4
      have g5' : ((branchL ts k)[i]).kind = ((branchL ts k)[i + 1]).kind := g5
      rw [m3] at g4' g5'
      rw [e] at g3 g5'
      have hi0 : ¬ i = 0 := by
        intro h0
        subst h0
        obtain ⟨_, he2⟩ := he
        exact he2 g4'
      refine n4 ⟨h1, by omega, g3, ?_, ?_⟩
      · exact g4'
      · have h6 : (if i = 0 then -1 else ts[k + i].kind - (k : Int)) = (if i + 1 = 0 then -1 else ts[k + (i + 1)].kind - (k : Int)) := g5'
        rw [if_neg hi0, if_neg (by omega)] at h6
        show ts[k + i].kind = ts[k + (i + 1)].kind
        omega

end

end Go.Proofs.YtcjeodgfpnecgaaGreatDoor

namespace Go.Proofs.YtcjeodgfpnecgaaGreatDoor
open Go.RowKit
set_option linter.unusedVariables false

/-- Of two chains from one on each is the other. -/
theorem linked_uni {ts : List Tk} : ∀ {c d : List Nat} {x : Nat}, Linked ts (x :: c) → Linked ts (x :: d) → c = d
  | [], [], x, _, _ => rfl
  | [], z :: d, x, h, k => by
    have h0 : x = 0 := h
    have := k.2.1
    omega
  | y :: c, [], x, h, k => by
    have h0 : x = 0 := k
    have := h.2.1
    omega
  | y :: c, z :: d, x, h, k => by
    have e : y = z := by
      have h1 := h.1
      have k1 := k.1
      omega
    subst e
    rw [linked_uni h.tail k.tail]

/-- Who stands behind all that a node has is in none of it. -/
theorem out_kind {ts : List Tk} (hT : TreeP ts) {a : Nat} (ha : a < ts.length) {i : Nat} (hi : endN ts a ≤ i) (hn : i < ts.length) : parI ts i < (a : Int) ∨ (endN ts a : Int) ≤ parI ts i := by
  have hle := endN_le ha
  rcases Nat.lt_or_eq_of_le hi with h' | h'
  · rcases hT.up i hn with h0 | ⟨p, hpm, ep, _⟩
    · omega
    · by_cases h1 : p < a
      · left; omega
      · by_cases h2 : endN ts a ≤ p
        · right; omega
        · exfalso
          have hin := in_chain hT ha (p - a) (by omega)
          rw [show a + (p - a) + 1 = p + 1 by omega] at hin
          have hL := hT.linked (i - 1) (by omega)
          rw [show i - 1 + 1 = i by omega] at hL
          obtain ⟨r, e1, e2⟩ := hL.1.drop p hpm
          have hL2 := hT.linked p (by omega)
          obtain ⟨r2, e3⟩ := chain_head ts p
          rw [e3] at hin hL2
          have er := linked_uni e2 hL2.1
          have hmem : a ∈ chainF ts i := by
            refine (List.dropWhile_sublist (fun (j : Nat) => !decide ((j : Int) = (p : Int)))).mem ?_
            rw [e1, er]
            exact hin
          have := out_chain hT ha (i - endN ts a - 1) (by omega)
          rw [show endN ts a + (i - endN ts a - 1) + 1 = i by omega] at this
          exact this hmem
  · subst h'
    left
    rcases endN_stop ha with h' | h'
    · omega
    · exact h'

/-- Who is whose parent without what stood from a to e. -/
def cutF (a e : Nat) (t : Tk) : Int := if (e : Int) ≤ t.kind then t.kind - ((e : Int) - (a : Int)) else t.kind

/-- What is out, of the first i. -/
def outC (ts : List Tk) (a e i : Nat) : List Tk := ts.take (min i a) ++ segN (fun _ t => cutF a e t) ts e (i - e)

theorem outC_zero (ts : List Tk) (a e : Nat) : outC ts a e 0 = [] := by
  unfold outC
  rw [Nat.zero_min, List.take_zero, Nat.zero_sub]
  rfl

theorem outC_skip {ts : List Tk} {a e i : Nat} (h1 : a ≤ i) (h2 : i < e) : outC ts a e (i + 1) = outC ts a e i := by
  unfold outC
  rw [Nat.min_eq_right h1, Nat.min_eq_right (by omega), show i + 1 - e = 0 by omega, show i - e = 0 by omega]

theorem outC_low {ts : List Tk} {a e i : Nat} (hae : a ≤ e) (h : i < a) (hi : i < ts.length) : outC ts a e (i + 1) = outC ts a e i ++ [ts[i]] := by
  unfold outC
  rw [Nat.min_eq_left (by omega), Nat.min_eq_left (by omega), show i + 1 - e = 0 by omega, show i - e = 0 by omega]
  show List.take (i + 1) ts ++ [] = (List.take i ts ++ []) ++ [ts[i]]
  rw [List.append_nil, List.append_nil, List.take_succ_eq_append_getElem hi]

theorem outC_high {ts : List Tk} {a e i : Nat} (hae : a ≤ e) (h : e ≤ i) (hi : i < ts.length) : outC ts a e (i + 1) = outC ts a e i ++ [shK (cutF a e ts[i]) ts[i]] := by
  unfold outC
  rw [Nat.min_eq_right (by omega), Nat.min_eq_right (by omega), show i + 1 - e = (i - e) + 1 by omega, segN_next (t := ts[i]) (by rw [show e + (i - e) = i by omega]; exact List.getElem?_eq_getElem hi), List.append_assoc]

theorem outC_len {ts : List Tk} {a e i : Nat} (hae : a ≤ e) (he : e ≤ ts.length) (hi : i ≤ ts.length) : (outC ts a e i).length = min i a + (i - e) := by
  unfold outC
  rw [List.length_append, List.length_take]
  by_cases h : e ≤ i
  · rw [segN_len _ (by omega)]
    omega
  · rw [show i - e = 0 by omega]
    show min (min i a) ts.length + 0 = _
    omega

section
variable {ts : List Tk} {a : Nat}

theorem low_kind (hT : TreeP ts) {i : Nat} (hi : i < ts.length) : parI ts i < (i : Int) := by
  rcases hT.up i hi with h0 | ⟨p, hp, ep, _⟩
  · subst h0
    rw [hT.2.2.1]
    omega
  · rcases Nat.eq_zero_or_pos i with h0 | h0
    · subst h0; rw [hT.2.2.1]; omega
    · have hL := (hT.linked (i - 1) (by omega)).2
      rw [show i - 1 + 1 = i by omega] at hL
      have := hL p hp
      omega

/-- The last that is out, ahead of one that stays. -/
theorem outC_last {e i : Nat} (hae : a ≤ e) (he : e ≤ ts.length) (ha1 : 1 ≤ a) (hi : i < ts.length) (h0 : 0 < i) (hx : i < a ∨ e ≤ i) : ∃ t, (outC ts a e i)[(outC ts a e i).length - 1]? = some t ∧ (i < a → ts[i - 1]? = some t) ∧ (i = e → ts[a - 1]? = some t) ∧ (e < i → ∃ u, ts[i - 1]? = some u ∧ t = shK (cutF a e u) u) := by
  have hl := outC_len hae he (show i ≤ ts.length by omega)
  rcases hx with hx | hx
  · have hlt : i - 1 < ts.length := by omega
    refine ⟨ts[i - 1], ?_, fun _ => List.getElem?_eq_getElem hlt, fun _ => by omega, fun _ => by omega⟩
    rw [hl, Nat.min_eq_left (by omega), show i - e = 0 by omega, Nat.add_zero]
    unfold outC
    rw [Nat.min_eq_left (by omega), List.getElem?_append_left (by rw [List.length_take]; omega), List.getElem?_take, if_pos (by omega)]
    exact List.getElem?_eq_getElem hlt
  · rcases Nat.lt_or_eq_of_le hx with h' | h'
    · have hlt : i - 1 < ts.length := by omega
      refine ⟨shK (cutF a e ts[i - 1]) ts[i - 1], ?_, fun _ => by omega, fun _ => by omega, fun _ => ⟨ts[i - 1], List.getElem?_eq_getElem hlt, rfl⟩⟩
      rw [hl, Nat.min_eq_right (by omega)]
      unfold outC
      have hta : (ts.take (min i a)).length = a := by rw [List.length_take]; omega
      rw [List.getElem?_append_right (by rw [hta]; omega), hta, segN_get _ (by omega) (a + (i - e) - 1 - a) (by omega) ts[i - 1] (by rw [show e + (a + (i - e) - 1 - a) = i - 1 by omega]; exact List.getElem?_eq_getElem hlt)]
    · subst h'
      have hlt : a - 1 < ts.length := by omega
      refine ⟨ts[a - 1], ?_, fun _ => by omega, fun _ => List.getElem?_eq_getElem hlt, fun _ => by omega⟩
      rw [hl, Nat.min_eq_right (by omega), Nat.sub_self, Nat.add_zero]
      unfold outC
      rw [Nat.min_eq_right (by omega), List.getElem?_append_left (by rw [List.length_take]; omega), List.getElem?_take, if_pos (by omega)]
      exact List.getElem?_eq_getElem hlt

/-- Elsewhere no two texts come to stand side by side. -/
theorem no_join (hT : TreeP ts) (ha : a < ts.length) (ha1 : 1 ≤ a) {i : Nat} (hi : i < ts.length) (h0 : 0 < i) (hx : i < a ∨ endN ts a < i) {t : Tk} (ht : (outC ts a (endN ts a) i)[(outC ts a (endN ts a) i).length - 1]? = some t) : ¬ (ts[i].name.size = 0 ∧ t.name.size = 0 ∧ t.kind = cutF a (endN ts a) ts[i]) := by
  have hle := endN_le ha
  rintro ⟨h1, h2, h3⟩
  obtain ⟨t', e1, e2, e3, e4⟩ := outC_last (ts := ts) (a := a) (e := endN ts a) (by omega) hle.2 ha1 hi h0 (by omega)
  rw [ht] at e1
  have : t = t' := Option.some.inj e1
  subst this
  have htw := (hT.2.2.2.2 i hi).2.2.2
  rcases hx with hx | hx
  · have e5 := e2 hx
    rw [List.getElem?_eq_getElem (show i - 1 < ts.length by omega)] at e5
    have e6 := Option.some.inj e5
    refine htw ⟨hi, h0, h1, by rw [e6]; exact h2, ?_⟩
    rw [e6, h3]
    have hk := low_kind hT hi
    rw [parI_at hi] at hk
    unfold cutF
    rw [if_neg (by omega)]
  · obtain ⟨u, e5, e6⟩ := e4 hx
    rw [List.getElem?_eq_getElem (show i - 1 < ts.length by omega)] at e5
    have e7 := Option.some.inj e5
    subst e6
    have h2' : u.name.size = 0 := h2
    have h3' : cutF a (endN ts a) u = cutF a (endN ts a) ts[i] := h3
    refine htw ⟨hi, h0, h1, by rw [e7]; exact h2', ?_⟩
    rw [e7]
    have k1 := out_kind hT ha (i := i) (by omega) hi
    have k2 := out_kind hT ha (i := i - 1) (by omega) (by omega)
    rw [parI_at hi] at k1
    rw [parI_at (show i - 1 < ts.length by omega), e7] at k2
    unfold cutF at h3'
    split at h3' <;> split at h3' <;> omega

end

/-- The two texts there are one. -/
def joinC (ts : List Tk) (a e : Nat) (t u : Tk) : List Tk :=
  (ts.take a).set (a - 1) ⟨t.kind, t.name, t.attrs, t.text ++ u.text⟩ ++ segN (fun _ r => if (e : Int) < r.kind then r.kind - ((e : Int) - (a : Int)) - 1 else r.kind) ts (e + 1) (ts.length - (e + 1))

/-- Two texts come to stand side by side there. -/
noncomputable def sideB (ts : List Tk) (a e : Nat) : Bool := match ts[a - 1]?, ts[e]? with
  | some t, some u => decide (u.name.size = 0) && (decide (t.name.size = 0) && decide (t.kind = cutF a e u))
  | _, _ => false

/-- A tree without them. -/
noncomputable def cutL (ts : List Tk) (a e : Nat) : List Tk := if sideB ts a e then (match ts[a - 1]?, ts[e]? with | some t, some u => joinC ts a e t u | _, _ => []) else outC ts a e ts.length

theorem cutL_no {ts : List Tk} {a e : Nat} (h : sideB ts a e = false) : cutL ts a e = outC ts a e ts.length := by
  unfold cutL
  rw [if_neg (by rw [h]; exact Bool.false_ne_true)]

theorem cutL_yes {ts : List Tk} {a e : Nat} (h : sideB ts a e = true) {t u : Tk} (ht : ts[a - 1]? = some t) (hu : ts[e]? = some u) : cutL ts a e = joinC ts a e t u := by
  unfold cutL
  rw [if_pos h, ht, hu]

end Go.Proofs.YtcjeodgfpnecgaaGreatDoor
