/- The tokens of a tree (plain mathematics). Families (plain mathematics of promise 8): a kid ends where the next one begins, the first stands right behind, the last ends where its parent ends. The one way to write it (mathematics alone). The order of texts, lists that rise, and putting into them (mathematics alone). -/
import Derived.Test.YteninofjeidljaaGreatM9
import Derived.Test.YteninofjeidljaaGreatM8
import Derived.Test.YteninofjeidljaaGreatM14
import Derived.Test.YteninofjeidljaaGreatM6
namespace Go.Proofs.YteninofjeidljaaGreat

set_option linter.unusedVariables false

def nodeAt (ts : List Tk) (k : Nat) : Tk := match ts[k]? with | some t => t | none => ⟨0, ⟨#[]⟩, [], ⟨#[]⟩⟩

theorem nodeAt_at {ts : List Tk} {k : Nat} (h : k < ts.length) : nodeAt ts k = ts[k] := by unfold nodeAt; rw [List.getElem?_eq_getElem h]

/-- TkOpen, TkClose and TkText of a node. -/
def opT (t : Tk) : Tk := ⟨1, t.name, t.attrs, ⟨#[]⟩⟩

def clT (t : Tk) : Tk := ⟨2, t.name, [], ⟨#[]⟩⟩

def txT (t : Tk) : Tk := ⟨3, ⟨#[]⟩, [], t.text⟩

/-- The tokens of the node there and of all that it has. -/
def tokN (ts : List Tk) : Nat → Nat → List Tk
  | 0, _ => []
  | f + 1, k => if (nodeAt ts k).name.size = 0 then [txT (nodeAt ts k)] else opT (nodeAt ts k) :: ((kidsTo ts k (endN ts k)).flatMap (tokN ts f) ++ [clT (nodeAt ts k)])

theorem endN_stop {ts : List Tk} {k : Nat} (h : k < ts.length) : endN ts k = ts.length ∨ parI ts (endN ts k) < (k : Int) := by
  rcases Nat.lt_or_ge (endN ts k) ts.length with h' | h'
  · right
    by_cases q : parI ts (endN ts k) < (k : Int)
    · exact q
    · exfalso
      have hle := endN_le h
      have key : ∀ m, k + 1 + m ≤ ts.length → ((ts.drop (k + 1)).takeWhile fun t => decide ((k : Int) ≤ t.kind)).length = m → k + 1 + m < ts.length → parI ts (k + 1 + m) < (k : Int) := by
        intro m hm hl hlt
        have hsub := List.takeWhile_append_dropWhile (p := fun t : Tk => decide ((k : Int) ≤ t.kind)) (l := ts.drop (k + 1))
        have hd : m < (ts.drop (k + 1)).length := by rw [List.length_drop]; omega
        have e1 : (ts.drop (k + 1))[m] = ts[k + 1 + m] := List.getElem_drop ..
        have hne : ((ts.drop (k + 1)).dropWhile fun t => decide ((k : Int) ≤ t.kind)) ≠ [] := by
          intro e0
          have := congrArg List.length hsub
          rw [List.length_append, e0, hl, List.length_nil] at this
          omega
        have hhd := List.head_dropWhile_not (fun t : Tk => decide ((k : Int) ≤ t.kind)) hne
        have e2 : ((ts.drop (k + 1)).dropWhile fun t => decide ((k : Int) ≤ t.kind)).head hne = ts[k + 1 + m] := by
          rw [← e1, List.head_eq_getElem]
          have : (ts.drop (k + 1))[m]? = some (((ts.drop (k + 1)).dropWhile fun t => decide ((k : Int) ≤ t.kind))[0]'(List.length_pos_iff.2 hne)) := by
            conv => lhs; rw [← hsub]
            rw [List.getElem?_append_right (by omega), hl, Nat.sub_self, List.getElem?_eq_getElem (List.length_pos_iff.2 hne)]
          rw [List.getElem?_eq_getElem hd] at this
          exact (Option.some.inj this).symm
        rw [e2] at hhd
        rw [parI_at hlt]
        simpa using hhd
      exact q (key _ hle.2 rfl h')
  · left
    have := endN_le h
    omega

theorem endN_min {ts : List Tk} {k e : Nat} (hk : k < ts.length) (he : k < e) (hp : e < ts.length → parI ts e < (k : Int)) (hle : e ≤ ts.length) : endN ts k ≤ e := by
  rcases Nat.lt_or_ge e (endN ts k) with h | h
  · exfalso
    have h2 := endN_le hk
    have h3 := hp (by omega)
    have h4 : (k : Int) ≤ parI ts e := by
      have hm : e - (k + 1) < ((ts.drop (k + 1)).takeWhile fun t => decide ((k : Int) ≤ t.kind)).length := by unfold endN at h; omega
      have h5 := List.all_eq_true.1 (List.all_takeWhile (p := fun t : Tk => decide ((k : Int) ≤ t.kind)) (l := ts.drop (k + 1))) _ (List.getElem_mem hm)
      have e1 : ((ts.drop (k + 1)).takeWhile fun t => decide ((k : Int) ≤ t.kind))[e - (k + 1)] = (ts.drop (k + 1))[e - (k + 1)]'(by rw [List.length_drop]; omega) :=
        (List.takeWhile_prefix _).getElem hm
      rw [e1, List.getElem_drop] at h5
      have e2 : k + 1 + (e - (k + 1)) = e := by omega
      simp only [e2] at h5
      rw [parI_at (by omega)]
      simpa using h5
    omega
  · exact h

/-- Of a kid: it ends ahead of the next one, and within. -/
theorem kid_end {ts : List Tk} {k i : Nat} (hk : k < ts.length) (hi : k < i) (hie : i < endN ts k) : endN ts i ≤ endN ts k ∧ ∀ j, i < j → j < ts.length → parI ts j = (k : Int) → endN ts i ≤ j := by
  have hle := endN_le hk
  refine ⟨?_, fun j hj hjn hp => ?_⟩
  · rcases endN_stop hk with h | h
    · rw [h]
      exact (endN_le (by omega)).2
    · exact endN_min (by omega) hie (fun _ => by omega) hle.2
  · exact endN_min (by omega) hj (fun _ => by omega) (by omega)

end Go.Proofs.YteninofjeidljaaGreat

namespace Go.Proofs.YteninofjeidljaaGreat

set_option linter.unusedVariables false

theorem TreeP.up {ts : List Tk} (h : TreeP ts) (j : Nat) (hj : j < ts.length) : UpOk ts j := (h.2.2.2.2 j hj).2.1

theorem TreeP.linked {ts : List Tk} (h : TreeP ts) (m : Nat) (hm : m < ts.length) : Linked ts (chainF ts (m + 1)) ∧ ∀ p ∈ chainF ts (m + 1), p < m + 1 := linked_all m (fun j hj => h.up j (by omega))

theorem endN_in {ts : List Tk} {k e : Nat} (hk : k < ts.length) (he : k < e) (h : e < endN ts k) : (k : Int) ≤ parI ts e := by
  by_cases q : (k : Int) ≤ parI ts e
  · exact q
  · have h2 := endN_le hk
    have := endN_min hk he (fun _ => by omega) (by omega)
    omega

theorem mem_drop {ts : List Tk} : ∀ {c : List Nat}, Linked ts c → ∀ p q, p ∈ c → q ∈ c → q ≤ p → q ∈ c.dropWhile (fun (j : Nat) => !decide ((j : Int) = (p : Int)))
  | [], h, p, q, hp, _, _ => absurd hp (by simp)
  | [x], h, p, q, hp, hq, _ => by
    rw [List.mem_singleton] at hp hq
    subst hp hq
    simp
  | x :: y :: r, h, p, q, hp, hq, hle => by
    by_cases e : x = p
    · subst e
      simpa using hq
    · have hp' : p ∈ y :: r := by
        rcases List.mem_cons.1 hp with h' | h'
        · exact absurd h'.symm e
        · exact h'
      have h1 := Linked.le h.tail p hp'
      have h2 := h.2.1
      have hq' : q ∈ y :: r := by
        rcases List.mem_cons.1 hq with h' | h'
        · omega
        · exact h'
      rw [List.dropWhile_cons, if_pos (by simp; omega)]
      exact mem_drop h.tail p q hp' hq' hle

theorem below_par {ts : List Tk} : ∀ {l : List Nat}, Linked ts l → ∀ c q, c ∈ l → q ∈ l → q < c → (q : Int) ≤ parI ts c
  | [], h, c, q, hc, _, _ => absurd hc (by simp)
  | [x], h, c, q, hc, hq, hlt => by
    rw [List.mem_singleton] at hc hq
    omega
  | x :: y :: r, h, c, q, hc, hq, hlt => by
    by_cases e : c = x
    · subst e
      have hq' : q ∈ y :: r := by
        rcases List.mem_cons.1 hq with h' | h'
        · omega
        · exact h'
      have h1 := Linked.le h.tail q hq'
      rw [h.1]
      omega
    · have hc' : c ∈ y :: r := by
        rcases List.mem_cons.1 hc with h' | h'
        · exact absurd h' e
        · exact h'
      have h1 := Linked.le h.tail c hc'
      have h2 := h.2.1
      have hq' : q ∈ y :: r := by
        rcases List.mem_cons.1 hq with h' | h'
        · omega
        · exact h'
      exact below_par h.tail c q hc' hq' hlt

/-- All that a node has lies in it. -/
theorem in_chain {ts : List Tk} (h : TreeP ts) {c : Nat} (hc : c < ts.length) : ∀ d, c + d < endN ts c → c ∈ chainF ts (c + d + 1)
  | 0, _ => by
    obtain ⟨r, e⟩ := chain_head ts c
    rw [Nat.add_zero, e]
    exact List.mem_cons_self ..
  | d + 1, hd => by
    have hle := endN_le hc
    have ih := in_chain h hc d (by omega)
    have hpar := endN_in hc (show c < c + (d + 1) by omega) hd
    obtain ⟨hL, _⟩ := h.linked (c + d) (by omega)
    rcases h.up (c + (d + 1)) (by omega) with h0 | ⟨p, hp, e, _⟩
    · omega
    · rw [← e] at hpar
      have hm := mem_drop hL p c hp ih (by omega)
      show c ∈ (c + (d + 1)) :: (chainF ts (c + (d + 1))).dropWhile (fun (j : Nat) => !decide ((j : Int) = parI ts (c + (d + 1))))
      rw [← e]
      exact List.mem_cons_of_mem _ hm

/-- Where a kid ends and more is to come, the next one begins. -/
theorem next_kid {ts : List Tk} (h : TreeP ts) {k c : Nat} (hk : k < ts.length) (hc : k < c) (hce : c < endN ts k) (hp : parI ts c = (k : Int)) (hj : endN ts c < endN ts k) : parI ts (endN ts c) = (k : Int) := by
  have hle := endN_le hk
  have hcl := endN_le (ts := ts) (k := c) (by omega)
  have hlow := endN_in hk (show k < endN ts c by omega) hj
  have hup : parI ts (endN ts c) < (c : Int) := by
    rcases endN_stop (ts := ts) (k := c) (by omega) with h' | h'
    · omega
    · exact h'
  have hin := in_chain h (show c < ts.length by omega) (endN ts c - c - 1) (by omega)
  rw [show c + (endN ts c - c - 1) + 1 = endN ts c by omega] at hin
  have hL := (h.linked (endN ts c - 1) (by omega)).1
  rw [show endN ts c - 1 + 1 = endN ts c by omega] at hL
  rcases h.up (endN ts c) (by omega) with h0 | ⟨p, hpm, e, _⟩
  · omega
  · rw [← e] at hlow hup ⊢
    have := below_par hL c p hin hpm (by omega)
    rw [hp] at this
    omega

theorem first_kid {ts : List Tk} (h : TreeP ts) {k : Nat} (hk : k < ts.length) (he : k + 1 < endN ts k) : parI ts (k + 1) = (k : Int) := by
  have hle := endN_le hk
  have hlow := endN_in hk (show k < k + 1 by omega) he
  rcases h.up (k + 1) (by omega) with h0 | ⟨p, hpm, e, _⟩
  · omega
  · have := (h.linked k hk).2 p hpm
    rw [← e] at hlow ⊢
    omega

/-- Behind its end nothing is its kid. -/
theorem out_chain {ts : List Tk} (h : TreeP ts) {k : Nat} (hk : k < ts.length) : ∀ d, endN ts k + d < ts.length → ¬ k ∈ chainF ts (endN ts k + d + 1)
  | 0, hd => by
    have hle := endN_le hk
    intro hm
    have hup : parI ts (endN ts k) < (k : Int) := by
      rcases endN_stop hk with h' | h'
      · omega
      · exact h'
    have hL := h.linked (endN ts k - 1) (by omega)
    rw [show endN ts k - 1 + 1 = endN ts k by omega] at hL
    obtain ⟨hl2, p, r, e, ep, _⟩ := linked_next hL.1 (h.up (endN ts k) (by omega)) (by omega) hL.2
    rw [Nat.add_zero, e] at hm
    rw [e] at hl2
    rcases List.mem_cons.1 hm with h' | h'
    · omega
    · have := Linked.le hl2.tail k h'
      omega
  | d + 1, hd => by
    have hle := endN_le hk
    have ih := out_chain h hk d (by omega)
    intro hm
    have hm : k ∈ (endN ts k + (d + 1)) :: (chainF ts (endN ts k + d + 1)).dropWhile (fun (j : Nat) => !decide ((j : Int) = parI ts (endN ts k + (d + 1)))) := hm
    rcases List.mem_cons.1 hm with h' | h'
    · omega
    · exact ih ((List.dropWhile_sublist _).mem h')

theorem no_kid {ts : List Tk} (h : TreeP ts) {k i : Nat} (hk : k < ts.length) (hi : endN ts k ≤ i) (hn : i < ts.length) : ¬ parI ts i = (k : Int) := by
  have hle := endN_le hk
  intro e
  rcases Nat.lt_or_eq_of_le hi with h' | h'
  · rcases h.up i hn with h0 | ⟨p, hpm, ep, _⟩
    · omega
    · have : p = k := by omega
      subst this
      have := out_chain h hk (i - endN ts p - 1) (by omega)
      rw [show endN ts p + (i - endN ts p - 1) + 1 = i by omega] at this
      exact this hpm
  · subst h'
    rcases endN_stop hk with h' | h'
    · omega
    · omega

/-- Kids from e on. -/
def kidsFrom (ts : List Tk) (k e E : Nat) : List Nat := (List.range' e (E - e)).filter fun i => decide (parI ts i = (k : Int))

theorem kidsFrom_split {ts : List Tk} {k a b c : Nat} (h1 : a ≤ b) (h2 : b ≤ c) : kidsFrom ts k a c = kidsFrom ts k a b ++ kidsFrom ts k b c := by
  unfold kidsFrom
  rw [← List.filter_append]
  congr 1
  have := List.range'_append_1 (s := a) (m := b - a) (n := c - b)
  rw [show a + (b - a) = b by omega, show b - a + (c - b) = c - a by omega] at this
  exact this.symm

theorem kidsFrom_none {ts : List Tk} {k a b : Nat} (h : ∀ i, a ≤ i → i < b → ¬ parI ts i = (k : Int)) : kidsFrom ts k a b = [] := by
  unfold kidsFrom
  rw [List.filter_eq_nil_iff]
  intro i hi
  rw [List.mem_range'_1] at hi
  simpa using h i hi.1 (by omega)

theorem kidsN_from {ts : List Tk} {k : Nat} (hk : k < ts.length) : kidsN ts k = kidsFrom ts k (k + 1) ts.length := by
  unfold kidsN kidsTo kidsFrom
  have e : List.range ts.length = List.range' 0 (k + 1) ++ List.range' (k + 1) (ts.length - (k + 1)) := by
    have := List.range'_append_1 (s := 0) (m := k + 1) (n := ts.length - (k + 1))
    rw [Nat.zero_add, show k + 1 + (ts.length - (k + 1)) = ts.length by omega] at this
    rw [this, List.range_eq_range']
  rw [e, List.filter_append]
  have e1 : (List.range' 0 (k + 1)).filter (fun i => decide (k < i) && decide (parI ts i = (k : Int))) = [] := by
    rw [List.filter_eq_nil_iff]
    intro i hi
    rw [List.mem_range'_1] at hi
    simp
    omega
  rw [e1, List.nil_append]
  refine List.filter_congr fun i hi => ?_
  rw [List.mem_range'_1] at hi
  have : decide (k < i) = true := decide_eq_true (by omega)
  rw [this, Bool.true_and]

/-- Where the i-th kid begins, or all ends. -/
structure FamAt (ts : List Tk) (k i e : Nat) : Prop where
  lo : k < e
  hi : e ≤ endN ts k
  kid : e < endN ts k → parI ts e = (k : Int)
  rest : kidsFrom ts k e (endN ts k) = (kidsN ts k).drop i

theorem fam_start {ts : List Tk} (h : TreeP ts) {k : Nat} (hk : k < ts.length) : FamAt ts k 0 (k + 1) := by
  have hle := endN_le hk
  refine ⟨by omega, by omega, fun he => first_kid h hk he, ?_⟩
  rw [List.drop_zero, kidsN_from hk, kidsFrom_split (show k + 1 ≤ endN ts k by omega) hle.2, kidsFrom_none (a := endN ts k) (fun i h1 h2 => no_kid h hk h1 h2), List.append_nil]

theorem fam_one {ts : List Tk} (h : TreeP ts) {k e : Nat} (hk : k < ts.length) (h1 : k < e) (h2 : e < endN ts k) (h3 : parI ts e = (k : Int)) : kidsFrom ts k e (endN ts k) = e :: kidsFrom ts k (endN ts e) (endN ts k) := by
  have hle := endN_le hk
  have hel := endN_le (ts := ts) (k := e) (by omega)
  have hke := (kid_end hk h1 h2).1
  rw [kidsFrom_split (show e ≤ e + 1 by omega) (show e + 1 ≤ endN ts k by omega), kidsFrom_split (show e + 1 ≤ endN ts e by omega) hke]
  have e1 : kidsFrom ts k e (e + 1) = [e] := by
    unfold kidsFrom
    rw [show e + 1 - e = 1 by omega]
    simp [h3]
  have e2 : kidsFrom ts k (e + 1) (endN ts e) = [] := kidsFrom_none (fun i g1 g2 => by
    have := endN_in (ts := ts) (k := e) (by omega) (show e < i by omega) g2
    omega)
  rw [e1, e2, List.nil_append]
  rfl

theorem FamAt.step {ts : List Tk} (h : TreeP ts) {k i e : Nat} (hk : k < ts.length) (f : FamAt ts k i e) (hi : i < (kidsN ts k).length) :
    (kidsN ts k)[i] = e ∧ e < endN ts k ∧ parI ts e = (k : Int) ∧ FamAt ts k (i + 1) (endN ts e) := by
  have hle := endN_le hk
  have hr := f.rest
  rw [List.drop_eq_getElem_cons hi] at hr
  have hlt : e < endN ts k := by
    rcases Nat.lt_or_eq_of_le f.hi with h' | h'
    · exact h'
    · rw [h', kidsFrom_none (fun i g1 g2 => by omega)] at hr
      cases hr
  have hp := f.kid hlt
  rw [fam_one h hk f.lo hlt hp] at hr
  injection hr with e1 e2
  have hel := endN_le (ts := ts) (k := e) (by omega)
  exact ⟨e1.symm, hlt, hp, ⟨by have := f.lo; omega, (kid_end hk f.lo hlt).1, fun hj => next_kid h hk f.lo hlt hp hj, e2⟩⟩

end Go.Proofs.YteninofjeidljaaGreat

namespace Go.Proofs.YteninofjeidljaaGreat

open Go.RowKit

set_option linter.unusedVariables false

/-- Where an attr comes to stand: behind all that it is not ahead of. -/
noncomputable def insN (ts : List Tk) (k : Nat) (aL : List At) (x : At) : Nat := (aL.takeWhile fun y => !aheadF ts k x y).length

theorem tw_low {α : Type} {p : α → Bool} : ∀ {l : List α} {j : Nat}, j < (l.takeWhile p).length → ∃ h : j < l.length, p l[j] = true
  | [], j, h => by simp at h
  | x :: l, j, h => by
    rw [List.takeWhile_cons] at h
    split at h
    · rename_i hx
      cases j with
      | zero => exact ⟨by simp, hx⟩
      | succ j =>
        obtain ⟨h1, h2⟩ := tw_low (l := l) (j := j) (by simpa using h)
        exact ⟨by simpa using h1, by simpa using h2⟩
    · simp at h

theorem tw_at {α : Type} {p : α → Bool} : ∀ {l : List α} (h : (l.takeWhile p).length < l.length), p l[(l.takeWhile p).length] = false
  | [], h => by simp at h
  | x :: l, h => by
    by_cases hx : p x = true
    · have e : (List.takeWhile p (x :: l)).length = (List.takeWhile p l).length + 1 := by rw [List.takeWhile_cons, if_pos hx]; rfl
      have h' : (List.takeWhile p l).length < l.length := by rw [e] at h; simpa using h
      have := tw_at h'
      simp only [e, List.getElem_cons_succ]
      exact this
    · have e : (List.takeWhile p (x :: l)).length = 0 := by rw [List.takeWhile_cons, if_neg hx]; rfl
      simp only [e, List.getElem_cons_zero]
      simpa using hx

theorem insN_le (ts : List Tk) (k : Nat) (aL : List At) (x : At) : insN ts k aL x ≤ aL.length := (List.takeWhile_sublist _).length_le

theorem insN_low {ts : List Tk} {k : Nat} {aL : List At} {x : At} {j : Nat} (h : j < insN ts k aL x) (hj : j < aL.length) : aheadF ts k x aL[j] = false := by
  obtain ⟨_, h2⟩ := tw_low h
  simpa using h2

theorem insN_at {ts : List Tk} {k : Nat} {aL : List At} {x : At} {j : Nat} (h : insN ts k aL x = j) (hj : j < aL.length) : aheadF ts k x aL[j] = true := by
  subst h
  have h2 : (!aheadF ts k x aL[insN ts k aL x]) = false := tw_at (p := fun y => !aheadF ts k x y) (l := aL) hj
  simpa using h2

noncomputable def insA (ts : List Tk) (k : Nat) (aL : List At) (x : At) : List At := aL.take (insN ts k aL x) ++ x :: aL.drop (insN ts k aL x)

theorem insA_is {ts : List Tk} {k : Nat} {aL : List At} {x : At} {j : Nat} (h : insN ts k aL x = j) : insA ts k aL x = aL.take j ++ x :: aL.drop j := by unfold insA; rw [h]

theorem insA_len (ts : List Tk) (k : Nat) (aL : List At) (x : At) : (insA ts k aL x).length = aL.length + 1 := by
  unfold insA
  rw [List.length_append, List.length_cons, List.length_take, List.length_drop]
  omega

theorem insA_mem {ts : List Tk} {k : Nat} {aL : List At} {x y : At} (h : y ∈ insA ts k aL x) : y ∈ aL ∨ y = x := by
  unfold insA at h
  rcases List.mem_append.1 h with h' | h'
  · exact .inl (List.mem_of_mem_take h')
  · rcases List.mem_cons.1 h' with h'' | h''
    · exact .inr h''
    · exact .inl (List.mem_of_mem_drop h'')

/-- What the attrs of a node tell: the prefixes that are needed, the others aL they are written. -/
noncomputable def accP (ps : List ByteArray) (x : At) : List ByteArray := if (declF x).isSome then ps else if (preS x.name).size = 0 then ps else putS ps (preS x.name)

noncomputable def accB (ts : List Tk) (k : Nat) (aL : List At) (x : At) : List At := if (declF x).isSome then aL else insA ts k aL x

noncomputable def preL7 (nm : ByteArray) (l : List At) : List ByteArray := l.foldl accP [preS nm]

noncomputable def othL (ts : List Tk) (k : Nat) (l : List At) : List At := l.foldl (accB ts k) []

theorem preL7_next {nm : ByteArray} {l : List At} {i : Nat} (h : i < l.length) : preL7 nm (l.take (i + 1)) = accP (preL7 nm (l.take i)) l[i] := by
  unfold preL7
  rw [take_snocN h, List.foldl_append]
  rfl

theorem othL_next {ts : List Tk} {k : Nat} {l : List At} {i : Nat} (h : i < l.length) : othL ts k (l.take (i + 1)) = accB ts k (othL ts k (l.take i)) l[i] := by
  unfold othL
  rw [take_snocN h, List.foldl_append]
  rfl

theorem accP_no {ps : List ByteArray} {x : At} (h : (declF x).isSome = true) : accP ps x = ps := by unfold accP; rw [if_pos h]

theorem accP_none {ps : List ByteArray} {x : At} (h : (declF x).isSome = false) (h2 : (preS x.name).size = 0) : accP ps x = ps := by unfold accP; rw [if_neg (by rw [h]; exact Bool.false_ne_true), if_pos h2]

theorem accP_put {ps : List ByteArray} {x : At} (h : (declF x).isSome = false) (h2 : ¬ (preS x.name).size = 0) : accP ps x = putS ps (preS x.name) := by unfold accP; rw [if_neg (by rw [h]; exact Bool.false_ne_true), if_neg h2]

theorem accB_no {ts : List Tk} {k : Nat} {aL : List At} {x : At} (h : (declF x).isSome = true) : accB ts k aL x = aL := by unfold accB; rw [if_pos h]

theorem accB_put {ts : List Tk} {k : Nat} {aL : List At} {x : At} (h : (declF x).isSome = false) : accB ts k aL x = insA ts k aL x := by unfold accB; rw [if_neg (by rw [h]; exact Bool.false_ne_true)]

theorem preL7_all {nm : ByteArray} {b : Nat} (hb : (preS nm).size ≤ b) (l : List At) (hl : ∀ x ∈ l, (preS x.name).size ≤ b) : (preL7 nm l).length ≤ l.length + 1 ∧ 1 ≤ (preL7 nm l).length ∧ ∀ p ∈ preL7 nm l, p.size ≤ b := by
  unfold preL7
  have key : ∀ (l : List At) (ps : List ByteArray), (∀ x ∈ l, (preS x.name).size ≤ b) → 1 ≤ ps.length → (∀ p ∈ ps, p.size ≤ b) → (l.foldl accP ps).length ≤ ps.length + l.length ∧ 1 ≤ (l.foldl accP ps).length ∧ ∀ p ∈ l.foldl accP ps, p.size ≤ b := by
    intro l
    induction l with
    | nil => intro ps _ h1 h2; exact ⟨by simp, h1, h2⟩
    | cons x l ih =>
      intro ps h0 h1 h2
      have hx := h0 x (by simp)
      have h3 : (accP ps x).length ≤ ps.length + 1 ∧ 1 ≤ (accP ps x).length ∧ ∀ p ∈ accP ps x, p.size ≤ b := by
        unfold accP
        split
        · exact ⟨by omega, h1, h2⟩
        · split
          · exact ⟨by omega, h1, h2⟩
          · have := putS_len ps (preS x.name)
            refine ⟨this.1, by omega, fun p hp => ?_⟩
            rcases putS_mem hp with h' | h'
            · exact h2 p h'
            · rw [h']; exact hx
      obtain ⟨g1, g2, g3⟩ := ih (accP ps x) (fun y hy => h0 y (by simp [hy])) h3.2.1 h3.2.2
      rw [List.foldl_cons, List.length_cons]
      exact ⟨by omega, g2, g3⟩
  obtain ⟨g1, g2, g3⟩ := key l [preS nm] hl (by simp) (fun p hp => by rw [List.mem_singleton.1 hp]; exact hb)
  exact ⟨by simpa [Nat.add_comm] using g1, g2, g3⟩

theorem othL_all {ts : List Tk} {k : Nat} (l : List At) : (othL ts k l).length ≤ l.length ∧ ∀ y ∈ othL ts k l, y ∈ l := by
  unfold othL
  have key : ∀ (l : List At) (aL : List At), (l.foldl (accB ts k) aL).length ≤ aL.length + l.length ∧ ∀ y ∈ l.foldl (accB ts k) aL, y ∈ aL ∨ y ∈ l := by
    intro l
    induction l with
    | nil => intro aL; exact ⟨by simp, fun y hy => .inl hy⟩
    | cons x l ih =>
      intro aL
      have h3 : (accB ts k aL x).length ≤ aL.length + 1 ∧ ∀ y ∈ accB ts k aL x, y ∈ aL ∨ y = x := by
        unfold accB
        split
        · exact ⟨by omega, fun y hy => .inl hy⟩
        · exact ⟨by rw [insA_len]; exact Nat.le_refl _, fun y hy => insA_mem hy⟩
      obtain ⟨g1, g2⟩ := ih (accB ts k aL x)
      rw [List.foldl_cons, List.length_cons]
      refine ⟨by omega, fun y hy => ?_⟩
      rcases g2 y hy with h' | h'
      · rcases h3.2 y h' with h'' | h''
        · exact .inl h''
        · exact .inr (by rw [h'']; exact List.mem_cons_self ..)
      · exact .inr (List.mem_cons_of_mem _ h')
  obtain ⟨g1, g2⟩ := key l []
  exact ⟨by simpa using g1, fun y hy => (g2 y hy).resolve_left List.not_mem_nil⟩

/-- The name of a declaration. -/
def nmD (p : ByteArray) : ByteArray := if p.size = 0 then ⟨#[110, 115]⟩ else (⟨#[110, 115, 58]⟩ : ByteArray) ++ p

/-- It needs not be written. -/
noncomputable def skipB (sd : List At) (p m : ByteArray) : Bool := open Classical in match lastF sd p with | some x => decide (x = m) | none => decide (p.size = 0) && decide (m.size = 0)

noncomputable def dclS (s p m : ByteArray) : ByteArray := ((((s ++ (⟨#[32]⟩ : ByteArray)) ++ nmD p) ++ ⟨#[61, 34]⟩) ++ m) ++ ⟨#[34]⟩

noncomputable def mnF (ts : List Tk) (k : Nat) (p : ByteArray) : ByteArray := (meanF ts k p).getD ⟨#[]⟩

noncomputable def dclF (ts : List Tk) (k : Nat) (z : List At × ByteArray) (p : ByteArray) : List At × ByteArray := if skipB z.1 p (mnF ts k p) then z else (z.1 ++ [⟨p, mnF ts k p⟩], dclS z.2 p (mnF ts k p))

noncomputable def dclL (ts : List Tk) (k : Nat) (sd : List At) (s : ByteArray) (ps : List ByteArray) : List At × ByteArray := ps.foldl (dclF ts k) (sd, s)

theorem dclL_next {ts : List Tk} {k : Nat} {sd : List At} {s : ByteArray} {ps : List ByteArray} {i : Nat} (h : i < ps.length) : dclL ts k sd s (ps.take (i + 1)) = dclF ts k (dclL ts k sd s (ps.take i)) ps[i] := by
  unfold dclL
  rw [take_snocN h, List.foldl_append]
  rfl

theorem nmD_size (p : ByteArray) : (nmD p).size ≤ p.size + 3 := by
  unfold nmD
  split
  · exact Nat.le_add_left_of_le (by decide)
  · rw [ByteArray.size_append]
    have : (⟨#[110, 115, 58]⟩ : ByteArray).size = 3 := rfl
    omega

theorem dclS_size (s p m : ByteArray) : (dclS s p m).size ≤ s.size + p.size + m.size + 7 := by
  have h := nmD_size p
  have e1 : (⟨#[32]⟩ : ByteArray).size = 1 := rfl
  have e2 : (⟨#[61, 34]⟩ : ByteArray).size = 2 := rfl
  have e3 : (⟨#[34]⟩ : ByteArray).size = 1 := rfl
  unfold dclS
  simp only [ByteArray.size_append, e1, e2, e3]
  omega

theorem dclL_all {ts : List Tk} {k : Nat} (hz : TksSz 1048576 ts) (sd : List At) (s : ByteArray) (ps : List ByteArray) (hp : ∀ p ∈ ps, p.size ≤ 1048576) : (dclL ts k sd s ps).1.length ≤ sd.length + ps.length ∧ (dclL ts k sd s ps).2.size ≤ s.size + 2100000 * ps.length := by
  unfold dclL
  induction ps generalizing sd s with
  | nil => exact ⟨by simp, by simp⟩
  | cons p ps ih =>
    rw [List.foldl_cons, List.length_cons]
    have h1 := hp p (by simp)
    have h2 : (mnF ts k p).size ≤ 1048576 := meanF_sz hz p
    have h3 := dclS_size s p (mnF ts k p)
    unfold dclF
    simp only
    split
    · obtain ⟨g1, g2⟩ := ih sd s (fun q hq => hp q (by simp [hq]))
      unfold dclF at g1 g2
      exact ⟨by omega, by omega⟩
    · obtain ⟨g1, g2⟩ := ih (sd ++ [⟨p, mnF ts k p⟩]) (dclS s p (mnF ts k p)) (fun q hq => hp q (by simp [hq]))
      unfold dclF at g1 g2
      rw [List.length_append, List.length_singleton] at g1
      exact ⟨by omega, by omega⟩

theorem atsS_szC {l : List At} (hl : AtSz 1048576 l) (s : ByteArray) : (atsS l s).size ≤ s.size + 8000000 * l.length := by
  induction l generalizing s with
  | nil => simp [atsS]
  | cons x l ih =>
    have h1 := hl x (by simp)
    have h2 := atS_size x
    have h3 := ih (fun y hy => hl y (by simp [hy])) (s ++ atS x)
    rw [ByteArray.size_append] at h3
    show (atsS l (s ++ atS x)).size ≤ _
    rw [List.length_cons]
    omega

/-- A node and all it has but one, with what was said around it. -/
noncomputable def canonN (ts : List Tk) (but : Int) : Nat → Nat → List At → ByteArray
  | 0, _, _ => ⟨#[]⟩
  | f + 1, k, sd => if (k : Int) = but then ⟨#[]⟩ else if (nodeAt ts k).name.size = 0 then escS false (nodeAt ts k).text else
    (((kidsN ts k).foldl (fun s j => s ++ canonN ts but f j (dclL ts k sd ((⟨#[60]⟩ : ByteArray) ++ (nodeAt ts k).name) (preL7 (nodeAt ts k).name (nodeAt ts k).attrs)).1)
      (atsS (othL ts k (nodeAt ts k).attrs) (dclL ts k sd ((⟨#[60]⟩ : ByteArray) ++ (nodeAt ts k).name) (preL7 (nodeAt ts k).name (nodeAt ts k).attrs)).2 ++ ⟨#[62]⟩)
      ++ ⟨#[60, 47]⟩) ++ (nodeAt ts k).name) ++ ⟨#[62]⟩

/-- What stands ahead of the kids. -/
noncomputable def headS (ts : List Tk) (k : Nat) (sd : List At) (t : Tk) : ByteArray := atsS (othL ts k t.attrs) (dclL ts k sd ((⟨#[60]⟩ : ByteArray) ++ t.name) (preL7 t.name t.attrs)).2 ++ ⟨#[62]⟩

noncomputable def saidL (ts : List Tk) (k : Nat) (sd : List At) (t : Tk) : List At := (dclL ts k sd ((⟨#[60]⟩ : ByteArray) ++ t.name) (preL7 t.name t.attrs)).1

theorem canonN_but {ts : List Tk} {but : Int} {f k : Nat} {sd : List At} (h : (k : Int) = but) : canonN ts but (f + 1) k sd = ⟨#[]⟩ := by
  unfold canonN
  rw [if_pos h]

theorem canonN_text {ts : List Tk} {but : Int} {f k : Nat} {sd : List At} {t : Tk} (ht : nodeAt ts k = t) (h : ¬ (k : Int) = but) (h2 : t.name.size = 0) : canonN ts but (f + 1) k sd = escS false t.text := by
  subst ht
  unfold canonN
  rw [if_neg h, if_pos h2]

theorem canonN_el {ts : List Tk} {but : Int} {f k : Nat} {sd : List At} {t : Tk} (ht : nodeAt ts k = t) (h : ¬ (k : Int) = but) (h2 : ¬ t.name.size = 0) : canonN ts but (f + 1) k sd = (((kidsN ts k).foldl (fun s j => s ++ canonN ts but f j (saidL ts k sd t)) (headS ts k sd t) ++ ⟨#[60, 47]⟩) ++ t.name) ++ ⟨#[62]⟩ := by
  subst ht
  conv => lhs; unfold canonN
  rw [if_neg h, if_neg h2]
  rfl

theorem nodeAt_sz {ts : List Tk} (hz : TksSz 1048576 ts) (k : Nat) : TkSz 1048576 (nodeAt ts k) := by
  by_cases h : k < ts.length
  · rw [nodeAt_at h]; exact hz _ (List.getElem_mem h)
  · unfold nodeAt
    rw [List.getElem?_eq_none (by omega)]
    exact ⟨Nat.zero_le _, Nat.zero_le _, fun x hx => absurd hx List.not_mem_nil, Nat.zero_le _⟩

theorem six_at {ts : List Tk} (h : TreeP ts) (k : Nat) (hne : ¬ (nodeAt ts k).name.size = 0) : (nodeAt ts k).attrs.length ≤ 6 := by
  by_cases hk : k < ts.length
  · rw [nodeAt_at hk] at hne ⊢
    obtain ⟨⟨_, hb⟩, _⟩ := h.2.2.2.2 k hk
    rw [nodeB_el hne] at hb
    simp only [Bool.and_eq_true] at hb
    by_cases q : AttrsOk ts[k].attrs
    · exact q.1
    · rw [attrsB_f q] at hb
      cases hb.2.1
  · unfold nodeAt
    rw [List.getElem?_eq_none (by omega)]
    exact Nat.zero_le _

/-- Bounds of what stands ahead of the kids. -/
theorem head_all {ts : List Tk} {k : Nat} {sd : List At} {t : Tk} (hz : TksSz 1048576 ts) (ht : TkSz 1048576 t) (h6 : t.attrs.length ≤ 6) : (headS ts k sd t).size ≤ 65000000 ∧ (saidL ts k sd t).length ≤ sd.length + 7 := by
  obtain ⟨p1, p2, p3⟩ := preL7_all (b := 1048576) (preS_sz ht.1) t.attrs (fun x hx => preS_sz (ht.2.2.1 x hx).1)
  obtain ⟨d1, d2⟩ := dclL_all (k := k) hz sd ((⟨#[60]⟩ : ByteArray) ++ t.name) (preL7 t.name t.attrs) p3
  obtain ⟨o1, o2⟩ := othL_all (ts := ts) (k := k) t.attrs
  have a1 := atsS_szC (l := othL ts k t.attrs) (fun y hy => ht.2.2.1 y (o2 y hy)) (dclL ts k sd ((⟨#[60]⟩ : ByteArray) ++ t.name) (preL7 t.name t.attrs)).2
  have e1 : ((⟨#[60]⟩ : ByteArray) ++ t.name).size = 1 + t.name.size := by rw [ByteArray.size_append]; rfl
  have e2 : (⟨#[62]⟩ : ByteArray).size = 1 := rfl
  have := ht.1
  unfold headS saidL
  rw [ByteArray.size_append, e2]
  exact ⟨by omega, by omega⟩

theorem fold_size (g : Nat → ByteArray) (l : List Nat) (s : ByteArray) : (l.foldl (fun s j => s ++ g j) s).size = s.size + (l.map fun j => (g j).size).sum := by
  induction l generalizing s with
  | nil => simp
  | cons x l ih =>
    rw [List.foldl_cons, ih, ByteArray.size_append, List.map_cons, List.sum_cons]
    omega

theorem kids_sum {ts : List Tk} {k : Nat} (C : Nat) (L : Nat → Nat) (hk : k < ts.length) (hL : ∀ i, k < i → i < endN ts k → L i ≤ C * (endN ts i - i)) :
    ∀ e, k < e → e ≤ endN ts k → ∃ m, k + 1 ≤ m ∧ m ≤ endN ts k ∧ ((kidsTo ts k e).map L).sum ≤ C * (m - (k + 1)) ∧ ∀ j, e ≤ j → j < endN ts k → parI ts j = (k : Int) → m ≤ j := by
  have hle := endN_le hk
  intro e
  induction e with
  | zero => intro h; omega
  | succ e ih =>
    intro h1 h2
    by_cases he : e = k
    · subst he
      refine ⟨e + 1, Nat.le_refl _, h2, ?_, fun j hj _ _ => by omega⟩
      rw [kidsTo_first]
      simp
    · obtain ⟨m, m1, m2, m3, m4⟩ := ih (by omega) (by omega)
      rw [kidsTo_next (by omega)]
      by_cases q : parI ts e = (k : Int)
      · rw [if_pos q, List.map_append, List.sum_append]
        obtain ⟨q1, q2⟩ := kid_end hk (show k < e by omega) (by omega)
        have hm := m4 e (Nat.le_refl _) (by omega) q
        have hl := hL e (by omega) (by omega)
        have he2 := endN_le (ts := ts) (k := e) (by omega)
        refine ⟨endN ts e, by omega, q1, ?_, fun j hj hjn hp => q2 j (by omega) (by omega) hp⟩
        simp only [List.map_cons, List.map_nil, List.sum_cons, List.sum_nil]
        have h5 : C * (m - (k + 1)) ≤ C * (e - (k + 1)) := Nat.mul_le_mul_left _ (by omega)
        have h6 : C * (e - (k + 1)) + C * (endN ts e - e) = C * (endN ts e - (k + 1)) := by rw [← Nat.mul_add]; congr 1; omega
        omega
      · rw [if_neg q, List.append_nil]
        exact ⟨m, m1, m2, m3, fun j hj hjn hp => m4 j (by omega) hjn hp⟩

theorem kidsTo_end {ts : List Tk} (h : TreeP ts) {k : Nat} (hk : k < ts.length) : kidsN ts k = kidsTo ts k (endN ts k) := by
  have hle := endN_le hk
  have key : ∀ d, endN ts k + d ≤ ts.length → kidsTo ts k (endN ts k + d) = kidsTo ts k (endN ts k) := by
    intro d
    induction d with
    | zero => intro _; rfl
    | succ d ih =>
      intro hd
      rw [← Nat.add_assoc, kidsTo_next (by omega), if_neg (no_kid h hk (by omega) (by omega)), List.append_nil]
      exact ih (by omega)
  have := key (ts.length - endN ts k) (by omega)
  rw [show endN ts k + (ts.length - endN ts k) = ts.length by omega] at this
  exact this

/-- It is not long. -/
theorem canon_size {ts : List Tk} (hT : TreeP ts) (hz : TksSz 1048576 ts) (but : Int) : ∀ f k sd, k < ts.length → (canonN ts but f k sd).size ≤ 70000000 * (endN ts k - k)
  | 0, k, sd, _ => Nat.zero_le _
  | f + 1, k, sd, hk => by
    have hle := endN_le hk
    have hm : 70000000 * 1 ≤ 70000000 * (endN ts k - k) := Nat.mul_le_mul_left _ (by omega)
    have hsz := nodeAt_sz hz k
    by_cases hb : (k : Int) = but
    · rw [canonN_but hb]
      exact Nat.zero_le _
    · by_cases hn : (nodeAt ts k).name.size = 0
      · rw [canonN_text rfl hb hn]
        have h1 := escS_size false (nodeAt ts k).text
        have h2 := hsz.2.2.2
        omega
      · rw [canonN_el rfl hb hn]
        have h1 := (head_all (k := k) (sd := sd) hz hsz (six_at hT k hn)).1
        obtain ⟨m, m1, m2, m3, _⟩ := kids_sum 70000000 (fun j => (canonN ts but f j (saidL ts k sd (nodeAt ts k))).size) hk (fun i h1 h2 => canon_size hT hz but f i _ (by omega)) (endN ts k) hle.1 (Nat.le_refl _)
        have e1 : (⟨#[60, 47]⟩ : ByteArray).size = 2 := rfl
        have e2 : (⟨#[62]⟩ : ByteArray).size = 1 := rfl
        rw [ByteArray.size_append, ByteArray.size_append, ByteArray.size_append, fold_size, kidsTo_end hT hk, e1, e2]
        have h3 : 70000000 * (m - (k + 1)) ≤ 70000000 * (endN ts k - (k + 1)) := Nat.mul_le_mul_left _ (by omega)
        have h4 : 70000000 * (endN ts k - (k + 1)) + 70000000 * 1 = 70000000 * (endN ts k - k) := by rw [← Nat.mul_add]; congr 1; omega
        have h5 := hsz.1
        omega

/-- Of some kids. -/
theorem kids_size {ts : List Tk} (hT : TreeP ts) (hz : TksSz 1048576 ts) (but : Int) (f : Nat) (sd : List At) (l : List Nat) (hl : ∀ j ∈ l, j < ts.length) (hn : l.length ≤ 50) (s : ByteArray) : (l.foldl (fun s j => s ++ canonN ts but f j sd) s).size ≤ s.size + 3500000000 * l.length := by
  rw [fold_size]
  have h50 : ts.length ≤ 50 := hT.2.1
  have key : ∀ l : List Nat, (∀ j ∈ l, j < ts.length) → (l.map fun j => (canonN ts but f j sd).size).sum ≤ 3500000000 * l.length := by
    intro l
    induction l with
    | nil => intro _; simp
    | cons x l ih =>
      intro hl
      have h1 := canon_size hT hz but f x sd (hl x (by simp))
      have h2 := endN_le (hl x (by simp))
      have h3 : 70000000 * (endN ts x - x) ≤ 70000000 * 50 := Nat.mul_le_mul_left _ (by omega)
      have h4 := ih (fun y hy => hl y (by simp [hy]))
      rw [List.map_cons, List.sum_cons, List.length_cons]
      omega
  have := key l hl
  omega

end Go.Proofs.YteninofjeidljaaGreat

namespace Go.Proofs.YteninofjeidljaaGreat

open Go.RowKit

set_option linter.unusedVariables false

theorem bl_irr : ∀ x : List UInt8, Op.bytesLess x x = false
  | [] => rfl
  | a :: x => by
    unfold Op.bytesLess
    rw [bl_irr x]
    simp

theorem bl_trans : ∀ x y z : List UInt8, Op.bytesLess x y = true → Op.bytesLess y z = true → Op.bytesLess x z = true
  | [], [], _, h, _ => by simp [Op.bytesLess] at h
  | [], _ :: _, [], _, h => by simp [Op.bytesLess] at h
  | [], _ :: _, _ :: _, _, _ => by simp [Op.bytesLess]
  | _ :: _, [], _, h, _ => by simp [Op.bytesLess] at h
  | _ :: _, _ :: _, [], _, h => by simp [Op.bytesLess] at h
  | a :: x, b :: y, c :: z, h, g => by
    unfold Op.bytesLess at h g ⊢
    simp only [Bool.or_eq_true, decide_eq_true_eq, Bool.and_eq_true, beq_iff_eq] at h g ⊢
    rcases h with h | ⟨rfl, h⟩
    · rcases g with g | ⟨rfl, g⟩
      · exact .inl (UInt8.lt_trans h g)
      · exact .inl h
    · rcases g with g | ⟨rfl, g⟩
      · exact .inl g
      · exact .inr ⟨rfl, bl_trans x y z h g⟩

theorem bl_tri : ∀ x y : List UInt8, Op.bytesLess x y = false → Op.bytesLess y x = false → x = y
  | [], [], _, _ => rfl
  | [], _ :: _, h, _ => by simp [Op.bytesLess] at h
  | _ :: _, [], _, h => by simp [Op.bytesLess] at h
  | a :: x, b :: y, h, g => by
    unfold Op.bytesLess at h g
    simp only [Bool.or_eq_false_iff, decide_eq_false_iff_not, Bool.and_eq_false_iff, beq_eq_false_iff_ne] at h g
    have e : a = b := by
      have h1 := UInt8.not_lt.1 h.1
      have h2 := UInt8.not_lt.1 g.1
      exact UInt8.le_antisymm h2 h1
    subst e
    have h3 : Op.bytesLess x y = false := h.2.resolve_left (fun q => q rfl)
    have g3 : Op.bytesLess y x = false := g.2.resolve_left (fun q => q rfl)
    rw [bl_tri x y h3 g3]

theorem ltB_irr (x : ByteArray) : ltB x x = false := bl_irr _

theorem ltB_trans {x y z : ByteArray} (h : ltB x y = true) (g : ltB y z = true) : ltB x z = true := bl_trans _ _ _ h g

theorem ltB_tri {x y : ByteArray} (h : ltB x y = false) (g : ltB y x = false) : x = y := by
  have e := bl_tri _ _ h g
  have := str_beq x y
  rw [e] at this
  simpa using this.symm

/-- What an order must be. -/
structure OrdB {α : Type} (lt : α → α → Bool) : Prop where
  asym : ∀ x y, lt x y = true → lt y x = false
  neg : ∀ x y z, lt x y = false → lt y z = false → lt x z = false

theorem OrdB.of {α : Type} {lt : α → α → Bool} (hi : ∀ x, lt x x = false) (ht : ∀ x y z, lt x y = true → lt y z = true → lt x z = true) (hn : ∀ x y, lt x y = false → lt y x = false → ∀ z, lt x z = lt y z) : OrdB lt := by
  refine ⟨fun x y h => ?_, fun x y z h g => ?_⟩
  · cases q : lt y x with
    | false => rfl
    | true => have := ht x y x h q; rw [hi] at this; cases this
  · cases q : lt x z with
    | false => rfl
    | true =>
      cases r : lt y x with
      | true => have := ht y x z r q; rw [g] at this; cases this
      | false => rw [hn x y h r z, g] at q; cases q

theorem ltB_ord : OrdB ltB := OrdB.of ltB_irr (fun _ _ _ => ltB_trans) (fun x y h g z => by rw [ltB_tri h g])

theorem ahead_ord (ts : List Tk) (k : Nat) : OrdB (aheadF ts k) := by
  refine OrdB.of (fun x => ?_) (fun x y z h g => ?_) (fun x y h g z => ?_)
  · unfold aheadF; rw [ltB_irr, ltB_irr]; simp
  · unfold aheadF at h g ⊢
    simp only [Bool.or_eq_true, Bool.and_eq_true, decide_eq_true_eq] at h g ⊢
    rcases h with h | ⟨h1, h2⟩
    · rcases g with g | ⟨g1, g2⟩
      · exact .inl (ltB_trans h g)
      · rw [← g1]; exact .inl h
    · rcases g with g | ⟨g1, g2⟩
      · rw [h1]; exact .inl g
      · exact .inr ⟨h1.trans g1, ltB_trans h2 g2⟩
  · unfold aheadF at h g
    simp only [Bool.or_eq_false_iff, Bool.and_eq_false_iff, decide_eq_false_iff_not] at h g
    have e1 := ltB_tri h.1 g.1
    have e2 := ltB_tri (h.2.resolve_left (fun q => q e1)) (g.2.resolve_left (fun q => q e1.symm))
    unfold aheadF
    rw [e1, e2]

/-- It rises. -/
def RisesB {α : Type} (lt : α → α → Bool) (l : List α) : Prop := l.Pairwise fun a b => lt b a = false

/-- Put behind all that it is not ahead of. -/
def insG {α : Type} (lt : α → α → Bool) (l : List α) (x : α) : List α := l.take (l.takeWhile fun y => !lt x y).length ++ x :: l.drop (l.takeWhile fun y => !lt x y).length

def sortG {α : Type} (lt : α → α → Bool) (l : List α) : List α := l.foldl (insG lt) []

theorem tw_split {α : Type} {p : α → Bool} {P Q : List α} (h1 : ∀ y ∈ P, p y = true) (h2 : ∀ y ∈ Q.head?, p y = false) : (P ++ Q).takeWhile p = P := by
  induction P with
  | nil =>
    cases Q with
    | nil => rfl
    | cons q Q => rw [List.nil_append, List.takeWhile_cons, if_neg (by rw [h2 q rfl]; exact Bool.false_ne_true)]
  | cons x P ih =>
    rw [List.cons_append, List.takeWhile_cons, if_pos (h1 x (by simp)), ih (fun y hy => h1 y (by simp [hy]))]

theorem tw_mem {α : Type} {p : α → Bool} : ∀ {l : List α} {y : α}, y ∈ l.takeWhile p → p y = true
  | [], y, h => absurd h List.not_mem_nil
  | x :: l, y, h => by
    rw [List.takeWhile_cons] at h
    split at h
    · rename_i hx
      rcases List.mem_cons.1 h with rfl | h
      · exact hx
      · exact tw_mem h
    · exact absurd h List.not_mem_nil

theorem ins_low {α : Type} {lt : α → α → Bool} (ho : OrdB lt) {P : List α} {x : α} (hs : RisesB lt P) (hp : ∀ y ∈ P.getLast?, lt x y = false) : ∀ y ∈ P, lt x y = false := by
  intro y hy
  rcases List.eq_nil_or_concat P with rfl | ⟨P', z, rfl⟩
  · exact absurd hy List.not_mem_nil
  · rw [List.concat_eq_append] at *
    have hz : lt x z = false := hp z (by simp)
    rcases List.mem_append.1 hy with h | h
    · exact ho.neg _ _ _ hz ((List.pairwise_append.1 hs).2.2 y h z (by simp))
    · rw [List.mem_singleton.1 h]; exact hz

/-- Where the walk from behind stops. -/
theorem ins_stop {α : Type} {lt : α → α → Bool} (ho : OrdB lt) {P Q : List α} {x : α} (hs : RisesB lt (P ++ Q)) (hq : ∀ q ∈ Q, lt x q = true) (hp : ∀ y ∈ P.getLast?, lt x y = false) : insG lt (P ++ Q) x = P ++ x :: Q := by
  have hP : ∀ y ∈ P, lt x y = false := ins_low ho (List.pairwise_append.1 hs).1 hp
  have e : (P ++ Q).takeWhile (fun y => !lt x y) = P := tw_split (fun y hy => by rw [hP y hy]; rfl) (fun y hy => by
    rw [hq y (List.mem_of_mem_head? hy)]; rfl)
  unfold insG
  rw [e, List.take_left' rfl, List.drop_left' rfl]

theorem ins_parts {α : Type} (lt : α → α → Bool) (l : List α) (x : α) : ∃ P Q, l = P ++ Q ∧ insG lt l x = P ++ x :: Q ∧ (∀ y ∈ P, lt x y = false) ∧ ∀ y ∈ Q.head?, lt x y = true := by
  refine ⟨_, _, (List.take_append_drop _ l).symm, rfl, fun y hy => ?_, fun y hy => ?_⟩
  · have h1 : l.take (l.takeWhile fun y => !lt x y).length = l.takeWhile fun y => !lt x y := by
      conv => lhs; rw [← List.takeWhile_append_dropWhile (p := fun y => !lt x y) (l := l)]
      rw [List.take_left' (by rw [List.takeWhile_append_dropWhile])]
    rw [h1] at hy
    have := tw_mem hy
    simpa using this
  · have h1 : l.drop (l.takeWhile fun y => !lt x y).length = l.dropWhile fun y => !lt x y := by
      conv => lhs; rw [← List.takeWhile_append_dropWhile (p := fun y => !lt x y) (l := l)]
      rw [List.drop_left' (by rw [List.takeWhile_append_dropWhile])]
    rw [h1] at hy
    have := List.head?_dropWhile_not (fun y => !lt x y) l
    rw [hy] at this
    simpa using this

theorem ins_rises {α : Type} {lt : α → α → Bool} (ho : OrdB lt) {l : List α} (hs : RisesB lt l) (x : α) : RisesB lt (insG lt l x) := by
  obtain ⟨P, Q, rfl, e, h1, h2⟩ := ins_parts lt l x
  rw [e]
  obtain ⟨a, b, c⟩ := List.pairwise_append.1 hs
  have hq : ∀ q ∈ Q, lt q x = false := by
    cases Q with
    | nil => exact fun q hq => absurd hq List.not_mem_nil
    | cons z Q =>
      have hz := ho.asym _ _ (h2 z rfl)
      intro q hq
      rcases List.mem_cons.1 hq with rfl | hq
      · exact hz
      · exact ho.neg _ _ _ ((List.pairwise_cons.1 b).1 q hq) hz
  refine List.pairwise_append.2 ⟨a, List.pairwise_cons.2 ⟨hq, b⟩, fun p hp z hz => ?_⟩
  rcases List.mem_cons.1 hz with rfl | hz
  · exact h1 p hp
  · exact c p hp z hz

theorem ins_mem {α : Type} {lt : α → α → Bool} {l : List α} {x y : α} : y ∈ insG lt l x ↔ y = x ∨ y ∈ l := by
  obtain ⟨P, Q, rfl, e, _, _⟩ := ins_parts lt l x
  rw [e]
  simp only [List.mem_append, List.mem_cons]
  constructor
  · rintro (h | h | h)
    · exact .inr (.inl h)
    · exact .inl h
    · exact .inr (.inr h)
  · rintro (h | h | h)
    · exact .inr (.inl h)
    · exact .inl h
    · exact .inr (.inr h)

theorem ins_len {α : Type} (lt : α → α → Bool) (l : List α) (x : α) : (insG lt l x).length = l.length + 1 := by
  obtain ⟨P, Q, rfl, e, _, _⟩ := ins_parts lt l x
  rw [e]
  simp only [List.length_append, List.length_cons]
  omega

theorem sort_all {α : Type} {lt : α → α → Bool} (ho : OrdB lt) (l : List α) : RisesB lt (sortG lt l) ∧ (sortG lt l).length = l.length ∧ ∀ y, y ∈ sortG lt l ↔ y ∈ l := by
  unfold sortG
  have key : ∀ (l m : List α), RisesB lt m → RisesB lt (l.foldl (insG lt) m) ∧ (l.foldl (insG lt) m).length = m.length + l.length ∧ ∀ y, y ∈ l.foldl (insG lt) m ↔ y ∈ m ∨ y ∈ l := by
    intro l
    induction l with
    | nil => intro m hm; exact ⟨hm, rfl, fun y => by simp⟩
    | cons x l ih =>
      intro m hm
      obtain ⟨a, b, c⟩ := ih (insG lt m x) (ins_rises ho hm x)
      rw [List.foldl_cons, List.length_cons]
      refine ⟨a, by rw [b, ins_len]; omega, fun y => ?_⟩
      rw [c, ins_mem, List.mem_cons]
      constructor
      · rintro ((h | h) | h)
        · exact .inr (.inl h)
        · exact .inl h
        · exact .inr (.inr h)
      · rintro (h | h | h)
        · exact .inl (.inr h)
        · exact .inl (.inl h)
        · exact .inr h
  obtain ⟨a, b, c⟩ := key l [] List.Pairwise.nil
  exact ⟨a, by simpa using b, fun y => by rw [c]; simp⟩

theorem sort_next {α : Type} (lt : α → α → Bool) {l : List α} {i : Nat} (h : i < l.length) : sortG lt (l.take (i + 1)) = insG lt (sortG lt (l.take i)) l[i] := by
  unfold sortG
  rw [take_snocN h, List.foldl_append]
  rfl

/-- Strictly. -/
def StrictB (l : List ByteArray) : Prop := l.Pairwise fun a b => ltB a b = true

theorem strict_same : ∀ {l m : List ByteArray}, StrictB l → StrictB m → (∀ y, y ∈ l ↔ y ∈ m) → l = m
  | [], [], _, _, _ => rfl
  | [], y :: m, _, _, h => absurd ((h y).2 (by simp)) List.not_mem_nil
  | x :: l, [], _, _, h => absurd ((h x).1 (by simp)) List.not_mem_nil
  | x :: l, y :: m, hl, hm, h => by
    obtain ⟨a, b⟩ := List.pairwise_cons.1 hl
    obtain ⟨c, d⟩ := List.pairwise_cons.1 hm
    have no : ∀ z, ltB z z = true → False := fun z hz => by rw [ltB_irr] at hz; cases hz
    have e : x = y := by
      rcases List.mem_cons.1 ((h x).1 (by simp)) with q | q
      · exact q
      · rcases List.mem_cons.1 ((h y).2 (by simp)) with r | r
        · exact r.symm
        · exact (no _ (ltB_trans (a y r) (c x q))).elim
    subst e
    rw [strict_same b d (fun z => ?_)]
    constructor
    · intro hz
      rcases List.mem_cons.1 ((h z).1 (by simp [hz])) with q | q
      · subst q; exact (no _ (a z hz)).elim
      · exact q
    · intro hz
      rcases List.mem_cons.1 ((h z).2 (by simp [hz])) with q | q
      · subst q; exact (no _ (c z hz)).elim
      · exact q

theorem put_parts (l : List ByteArray) (s : ByteArray) (hl : StrictB l) : StrictB (putS l s) ∧ ∀ y, y ∈ putS l s ↔ y ∈ l ∨ y = s := by
  have hP : ∀ y ∈ l.take (lowN l s), ltB y s = true := fun y hy => by
    have h1 : l.take (l.takeWhile fun x => ltB x s).length = l.takeWhile fun x => ltB x s := by
      conv => lhs; rw [← List.takeWhile_append_dropWhile (p := fun x => ltB x s) (l := l)]
      rw [List.take_left' (by rw [List.takeWhile_append_dropWhile])]
    unfold lowN at hy
    rw [h1] at hy
    exact tw_mem (p := fun x => ltB x s) hy
  unfold putS
  split
  · rename_i h
    exact ⟨hl, fun y => ⟨.inl, fun q => q.elim id fun e => by rw [e]; exact List.mem_of_getElem? h⟩⟩
  · rename_i h
    have hs := hl
    rw [← List.take_append_drop (lowN l s) l] at hs
    obtain ⟨a, b, c⟩ := List.pairwise_append.1 hs
    have hq : ∀ q ∈ l.drop (lowN l s), ltB s q = true := by
      cases hd : l.drop (lowN l s) with
      | nil => exact fun q hq => absurd hq List.not_mem_nil
      | cons z Q =>
        have hlt : lowN l s < l.length := by
          apply Classical.byContradiction
          intro hn
          rw [List.drop_of_length_le (by omega)] at hd
          cases hd
        have hz : l[lowN l s] = z := by
          have := List.drop_eq_getElem_cons hlt
          rw [hd] at this
          exact (List.cons.inj this).1.symm
        have h1 : ltB z s = false := by rw [← hz]; exact tw_at (p := fun x => ltB x s) (l := l) hlt
        have h2 : ltB s z = true := by
          cases q : ltB s z with
          | true => rfl
          | false =>
            refine absurd ?_ h
            rw [List.getElem?_eq_getElem hlt, hz, ltB_tri h1 q]
        rw [hd] at b
        intro q hq
        rcases List.mem_cons.1 hq with rfl | hq
        · exact h2
        · exact ltB_trans h2 ((List.pairwise_cons.1 b).1 q hq)
    refine ⟨List.pairwise_append.2 ⟨a, List.pairwise_cons.2 ⟨hq, b⟩, fun p hp z hz => ?_⟩, fun y => ?_⟩
    · rcases List.mem_cons.1 hz with rfl | hz
      · exact hP p hp
      · exact c p hp z hz
    · rw [List.mem_append, List.mem_cons]
      conv => rhs; rw [← List.take_append_drop (lowN l s) l]
      rw [List.mem_append]
      constructor
      · rintro (q | q | q)
        · exact .inl (.inl q)
        · exact .inr q
        · exact .inl (.inr q)
      · rintro ((q | q) | q)
        · exact .inl q
        · exact .inr (.inr q)
        · exact .inr (.inl q)

end Go.Proofs.YteninofjeidljaaGreat
