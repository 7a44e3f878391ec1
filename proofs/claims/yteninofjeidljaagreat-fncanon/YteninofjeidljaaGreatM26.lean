/- A tree without a node and all it has (mathematics alone). The tree of what is written in the one way (mathematics alone). What is written in the one way grows to its tree (mathematics alone). What looks alike but for texts that were joined is written alike (mathematics alone). -/
import Derived.Test.YteninofjeidljaaGreatM25
import Derived.Test.YteninofjeidljaaGreatM24
namespace Go.Proofs.YteninofjeidljaaGreat

open Go.RowKit

set_option linter.unusedVariables false

/-- Of two chains from one on each is the other. -/
theorem linked_uni {ts : List Tk} : ∀ {c d : List Nat} {x : Nat}, Linked ts (x :: c) → Linked ts (x :: d) → c = d
  | [], [], x, _, _ => rfl
  | [], z :: d, x, h, k => by
    have h0 : x = 0 := h
    have := k.2.1
    omega
  | y :: c, [], x, h, k => by
    have h0 : x = 0 := k
    have := h.2.1
    omega
  | y :: c, z :: d, x, h, k => by
    have e : y = z := by
      have h1 := h.1
      have k1 := k.1
      omega
    subst e
    rw [linked_uni h.tail k.tail]

/-- Who stands behind all that a node has is in none of it. -/
theorem out_kind {ts : List Tk} (hT : TreeP ts) {a : Nat} (ha : a < ts.length) {i : Nat} (hi : endN ts a ≤ i) (hn : i < ts.length) : parI ts i < (a : Int) ∨ (endN ts a : Int) ≤ parI ts i := by
  have hle := endN_le ha
  rcases Nat.lt_or_eq_of_le hi with h' | h'
  · rcases hT.up i hn with h0 | ⟨p, hpm, ep, _⟩
    · omega
    · by_cases h1 : p < a
      · left; omega
      · by_cases h2 : endN ts a ≤ p
        · right; omega
        · exfalso
          have hin := in_chain hT ha (p - a) (by omega)
          rw [show a + (p - a) + 1 = p + 1 by omega] at hin
          have hL := hT.linked (i - 1) (by omega)
          rw [show i - 1 + 1 = i by omega] at hL
          obtain ⟨r, e1, e2⟩ := hL.1.drop p hpm
          have hL2 := hT.linked p (by omega)
          obtain ⟨r2, e3⟩ := chain_head ts p
          rw [e3] at hin hL2
          have er := linked_uni e2 hL2.1
          have hmem : a ∈ chainF ts i := by
            refine (List.dropWhile_sublist (fun (j : Nat) => !decide ((j : Int) = (p : Int)))).mem ?_
            rw [e1, er]
            exact hin
          have := out_chain hT ha (i - endN ts a - 1) (by omega)
          rw [show endN ts a + (i - endN ts a - 1) + 1 = i by omega] at this
          exact this hmem
  · subst h'
    left
    rcases endN_stop ha with h' | h'
    · omega
    · exact h'

/-- Who is whose parent without what stood from a to e. -/
def cutF (a e : Nat) (t : Tk) : Int := if (e : Int) ≤ t.kind then t.kind - ((e : Int) - (a : Int)) else t.kind

/-- What is out, of the first i. -/
def outC (ts : List Tk) (a e i : Nat) : List Tk := ts.take (min i a) ++ segN (fun _ t => cutF a e t) ts e (i - e)

theorem outC_zero (ts : List Tk) (a e : Nat) : outC ts a e 0 = [] := by
  unfold outC
  rw [Nat.zero_min, List.take_zero, Nat.zero_sub]
  rfl

theorem outC_skip {ts : List Tk} {a e i : Nat} (h1 : a ≤ i) (h2 : i < e) : outC ts a e (i + 1) = outC ts a e i := by
  unfold outC
  rw [Nat.min_eq_right h1, Nat.min_eq_right (by omega), show i + 1 - e = 0 by omega, show i - e = 0 by omega]

theorem outC_low {ts : List Tk} {a e i : Nat} (hae : a ≤ e) (h : i < a) (hi : i < ts.length) : outC ts a e (i + 1) = outC ts a e i ++ [ts[i]] := by
  unfold outC
  rw [Nat.min_eq_left (by omega), Nat.min_eq_left (by omega), show i + 1 - e = 0 by omega, show i - e = 0 by omega]
  show List.take (i + 1) ts ++ [] = (List.take i ts ++ []) ++ [ts[i]]
  rw [List.append_nil, List.append_nil, List.take_succ_eq_append_getElem hi]

theorem outC_high {ts : List Tk} {a e i : Nat} (hae : a ≤ e) (h : e ≤ i) (hi : i < ts.length) : outC ts a e (i + 1) = outC ts a e i ++ [shK (cutF a e ts[i]) ts[i]] := by
  unfold outC
  rw [Nat.min_eq_right (by omega), Nat.min_eq_right (by omega), show i + 1 - e = (i - e) + 1 by omega, segN_next (t := ts[i]) (by rw [show e + (i - e) = i by omega]; exact List.getElem?_eq_getElem hi), List.append_assoc]

theorem outC_len {ts : List Tk} {a e i : Nat} (hae : a ≤ e) (he : e ≤ ts.length) (hi : i ≤ ts.length) : (outC ts a e i).length = min i a + (i - e) := by
  unfold outC
  rw [List.length_append, List.length_take]
  by_cases h : e ≤ i
  · rw [segN_len _ (by omega)]
    omega
  · rw [show i - e = 0 by omega]
    show min (min i a) ts.length + 0 = _
    omega

section

variable {ts : List Tk} {a : Nat}

theorem low_kind (hT : TreeP ts) {i : Nat} (hi : i < ts.length) : parI ts i < (i : Int) := by
  rcases hT.up i hi with h0 | ⟨p, hp, ep, _⟩
  · subst h0
    rw [hT.2.2.1]
    omega
  · rcases Nat.eq_zero_or_pos i with h0 | h0
    · subst h0; rw [hT.2.2.1]; omega
    · have hL := (hT.linked (i - 1) (by omega)).2
      rw [show i - 1 + 1 = i by omega] at hL
      have := hL p hp
      omega

/-- The last that is out, ahead of one that stays. -/
theorem outC_last {e i : Nat} (hae : a ≤ e) (he : e ≤ ts.length) (ha1 : 1 ≤ a) (hi : i < ts.length) (h0 : 0 < i) (hx : i < a ∨ e ≤ i) : ∃ t, (outC ts a e i)[(outC ts a e i).length - 1]? = some t ∧ (i < a → ts[i - 1]? = some t) ∧ (i = e → ts[a - 1]? = some t) ∧ (e < i → ∃ u, ts[i - 1]? = some u ∧ t = shK (cutF a e u) u) := by
  have hl := outC_len hae he (show i ≤ ts.length by omega)
  rcases hx with hx | hx
  · have hlt : i - 1 < ts.length := by omega
    refine ⟨ts[i - 1], ?_, fun _ => List.getElem?_eq_getElem hlt, fun _ => by omega, fun _ => by omega⟩
    rw [hl, Nat.min_eq_left (by omega), show i - e = 0 by omega, Nat.add_zero]
    unfold outC
    rw [Nat.min_eq_left (by omega), List.getElem?_append_left (by rw [List.length_take]; omega), List.getElem?_take, if_pos (by omega)]
    exact List.getElem?_eq_getElem hlt
  · rcases Nat.lt_or_eq_of_le hx with h' | h'
    · have hlt : i - 1 < ts.length := by omega
      refine ⟨shK (cutF a e ts[i - 1]) ts[i - 1], ?_, fun _ => by omega, fun _ => by omega, fun _ => ⟨ts[i - 1], List.getElem?_eq_getElem hlt, rfl⟩⟩
      rw [hl, Nat.min_eq_right (by omega)]
      unfold outC
      have hta : (ts.take (min i a)).length = a := by rw [List.length_take]; omega
      rw [List.getElem?_append_right (by rw [hta]; omega), hta, segN_get _ (by omega) (a + (i - e) - 1 - a) (by omega) ts[i - 1] (by rw [show e + (a + (i - e) - 1 - a) = i - 1 by omega]; exact List.getElem?_eq_getElem hlt)]
    · subst h'
      have hlt : a - 1 < ts.length := by omega
      refine ⟨ts[a - 1], ?_, fun _ => by omega, fun _ => List.getElem?_eq_getElem hlt, fun _ => by omega⟩
      rw [hl, Nat.min_eq_right (by omega), Nat.sub_self, Nat.add_zero]
      unfold outC
      rw [Nat.min_eq_right (by omega), List.getElem?_append_left (by rw [List.length_take]; omega), List.getElem?_take, if_pos (by omega)]
      exact List.getElem?_eq_getElem hlt

/-- Elsewhere no two texts come to stand side by side. -/
theorem no_join (hT : TreeP ts) (ha : a < ts.length) (ha1 : 1 ≤ a) {i : Nat} (hi : i < ts.length) (h0 : 0 < i) (hx : i < a ∨ endN ts a < i) {t : Tk} (ht : (outC ts a (endN ts a) i)[(outC ts a (endN ts a) i).length - 1]? = some t) : ¬ (ts[i].name.size = 0 ∧ t.name.size = 0 ∧ t.kind = cutF a (endN ts a) ts[i]) := by
  have hle := endN_le ha
  rintro ⟨h1, h2, h3⟩
  obtain ⟨t', e1, e2, e3, e4⟩ := outC_last (ts := ts) (a := a) (e := endN ts a) (by omega) hle.2 ha1 hi h0 (by omega)
  rw [ht] at e1
  have : t = t' := Option.some.inj e1
  subst this
  have htw := (hT.2.2.2.2 i hi).2.2.2
  rcases hx with hx | hx
  · have e5 := e2 hx
    rw [List.getElem?_eq_getElem (show i - 1 < ts.length by omega)] at e5
    have e6 := Option.some.inj e5
    refine htw ⟨hi, h0, h1, by rw [e6]; exact h2, ?_⟩
    rw [e6, h3]
    have hk := low_kind hT hi
    rw [parI_at hi] at hk
    unfold cutF
    rw [if_neg (by omega)]
  · obtain ⟨u, e5, e6⟩ := e4 hx
    rw [List.getElem?_eq_getElem (show i - 1 < ts.length by omega)] at e5
    have e7 := Option.some.inj e5
    subst e6
    have h2' : u.name.size = 0 := h2
    have h3' : cutF a (endN ts a) u = cutF a (endN ts a) ts[i] := h3
    refine htw ⟨hi, h0, h1, by rw [e7]; exact h2', ?_⟩
    rw [e7]
    have k1 := out_kind hT ha (i := i) (by omega) hi
    have k2 := out_kind hT ha (i := i - 1) (by omega) (by omega)
    rw [parI_at hi] at k1
    rw [parI_at (show i - 1 < ts.length by omega), e7] at k2
    unfold cutF at h3'
    split at h3' <;> split at h3' <;> omega

end

/-- The two texts there are one. -/
def joinC (ts : List Tk) (a e : Nat) (t u : Tk) : List Tk :=
  (ts.take a).set (a - 1) ⟨t.kind, t.name, t.attrs, t.text ++ u.text⟩ ++ segN (fun _ r => if (e : Int) < r.kind then r.kind - ((e : Int) - (a : Int)) - 1 else r.kind) ts (e + 1) (ts.length - (e + 1))

/-- Two texts come to stand side by side there. -/
noncomputable def sideB (ts : List Tk) (a e : Nat) : Bool := match ts[a - 1]?, ts[e]? with
  | some t, some u => decide (u.name.size = 0) && (decide (t.name.size = 0) && decide (t.kind = cutF a e u))
  | _, _ => false

/-- A tree without them. -/
noncomputable def cutL (ts : List Tk) (a e : Nat) : List Tk := if sideB ts a e then (match ts[a - 1]?, ts[e]? with | some t, some u => joinC ts a e t u | _, _ => []) else outC ts a e ts.length

theorem cutL_no {ts : List Tk} {a e : Nat} (h : sideB ts a e = false) : cutL ts a e = outC ts a e ts.length := by
  unfold cutL
  rw [if_neg (by rw [h]; exact Bool.false_ne_true)]

theorem cutL_yes {ts : List Tk} {a e : Nat} (h : sideB ts a e = true) {t u : Tk} (ht : ts[a - 1]? = some t) (hu : ts[e]? = some u) : cutL ts a e = joinC ts a e t u := by
  unfold cutL
  rw [if_pos h, ht, hu]

end Go.Proofs.YteninofjeidljaaGreat

namespace Go.Proofs.YteninofjeidljaaGreat

open Go.RowKit

set_option linter.unusedVariables false

/-- What is said above a node of the branch. -/
noncomputable def sdF (ts : List Tk) (k : Nat) : Nat → Nat → List At
  | 0, _ => []
  | f + 1, j => if j = 0 then [] else saidL ts (k + (parI (branchL ts k) j).toNat) (sdF ts k f (parI (branchL ts k) j).toNat) (nodeAt ts (k + (parI (branchL ts k) j).toNat))

noncomputable def sdC (ts : List Tk) (k j : Nat) : List At := sdF ts k (j + 1) j

/-- A node as it is written. -/
noncomputable def nodeC (ts : List Tk) (k j : Nat) : Tk := ⟨parI (branchL ts k) j, (nodeAt ts (k + j)).name, if (nodeAt ts (k + j)).name.size = 0 then [] else attC ts (k + j) (sdC ts k j), (nodeAt ts (k + j)).text⟩

/-- The tree that is written. -/
noncomputable def treeC (ts : List Tk) (k : Nat) : List Tk := (List.range (branchL ts k).length).map (nodeC ts k)

section

variable {ts : List Tk} {k : Nat}

theorem sdF_fuel (hB : TreeP (branchL ts k)) : ∀ f g j, j < (branchL ts k).length → j < f → j < g → sdF ts k f j = sdF ts k g j
  | 0, g, j, _, h, _ => absurd h (Nat.not_lt_zero _)
  | f + 1, 0, j, _, _, h => absurd h (Nat.not_lt_zero _)
  | f + 1, g + 1, j, hj, h1, h2 => by
    unfold sdF
    by_cases h0 : j = 0
    · rw [if_pos h0, if_pos h0]
    · rw [if_neg h0, if_neg h0]
      have := low_kind hB hj
      rw [sdF_fuel hB f g _ (by omega) (by omega) (by omega)]

theorem sdC_zero : sdC ts k 0 = [] := rfl

/-- Further in: what the parent says. -/
theorem sdC_kid (hB : TreeP (branchL ts k)) {j p : Nat} (hj : j < (branchL ts k).length) (hp : parI (branchL ts k) j = (p : Int)) : sdC ts k j = saidL ts (k + p) (sdC ts k p) (nodeAt ts (k + p)) := by
  have hl := low_kind hB hj
  have h0 : ¬ j = 0 := fun e => by
    subst e
    rw [hB.2.2.1] at hp
    omega
  have e : sdC ts k j = saidL ts (k + (parI (branchL ts k) j).toNat) (sdF ts k j (parI (branchL ts k) j).toNat) (nodeAt ts (k + (parI (branchL ts k) j).toNat)) := by
    unfold sdC
    show (if j = 0 then [] else _) = _
    rw [if_neg h0]
  rw [e, hp, show ((p : Int)).toNat = p from rfl]
  congr 1
  exact sdF_fuel hB j (p + 1) p (by omega) (by omega) (by omega)

theorem treeC_len : (treeC ts k).length = (branchL ts k).length := by
  unfold treeC
  rw [List.length_map, List.length_range]

theorem treeC_get {j : Nat} (hj : j < (branchL ts k).length) : (treeC ts k)[j]? = some (nodeC ts k j) := by
  unfold treeC
  rw [List.getElem?_map, List.getElem?_range hj]
  rfl

theorem treeC_node {j : Nat} (hj : j < (branchL ts k).length) : nodeAt (treeC ts k) j = nodeC ts k j := by
  unfold nodeAt
  rw [treeC_get hj]

theorem treeC_par : parI (treeC ts k) = parI (branchL ts k) := by
  funext j
  rcases Nat.lt_or_ge j (branchL ts k).length with h | h
  · conv => lhs; unfold parI
    rw [treeC_get h]
    rfl
  · unfold parI
    rw [List.getElem?_eq_none h, List.getElem?_eq_none (by rw [treeC_len]; exact h)]

theorem chain_same {us vs : List Tk} (h : parI us = parI vs) : ∀ i, chainF us i = chainF vs i
  | 0 => rfl
  | i + 1 => by
    show i :: (chainF us i).dropWhile _ = i :: (chainF vs i).dropWhile _
    rw [chain_same h i, h]

theorem kids_same {us vs : List Tk} (h : parI us = parI vs) (hl : us.length = vs.length) (j : Nat) : kidsN us j = kidsN vs j := by
  unfold kidsN kidsTo
  rw [h, hl]

/-- A kid of the branch, in the whole. -/
theorem kids_off (hT : TreeP ts) (hk : k < ts.length) {j : Nat} (hj : j < (branchL ts k).length) : kidsN ts (k + j) = (kidsN (branchL ts k) j).map (fun x => k + x) := by
  have := branchL_len hk
  exact kids_inner hT hk (by omega)

/-- The tokens of each node are among those of the whole. -/
theorem tokC_sub (hT : TreeP ts) (hk : k < ts.length) (he : elN ts k) {f : Nat} (hf : ts.length - k ≤ f) : ∀ n j, j < n → j < (branchL ts k).length → ∃ g, ts.length - (k + j) ≤ g ∧ ∀ t ∈ tokC ts g (k + j) (sdC ts k j), t ∈ tokC ts f k []
  | 0, j, h, _ => absurd h (Nat.not_lt_zero _)
  | n + 1, j, h, hj => by
    have hB := branch_tree hT hk he
    have hlen := branchL_len hk
    have hle := endN_le hk
    by_cases h0 : j = 0
    · subst h0
      exact ⟨f, hf, fun t ht => ht⟩
    · have hl := low_kind hB hj
      have hp0 : 0 ≤ parI (branchL ts k) j := by
        rcases hB.up j hj with h' | ⟨p, _, ep, _⟩
        · exact absurd h' h0
        · omega
      obtain ⟨p, hp⟩ : ∃ p : Nat, parI (branchL ts k) j = (p : Int) := ⟨(parI (branchL ts k) j).toNat, by omega⟩
      obtain ⟨g, hg, hsub⟩ := tokC_sub hT hk he hf n p (by omega) (by omega)
      obtain ⟨g, rfl⟩ : ∃ g', g = g' + 1 := ⟨g - 1, by omega⟩
      refine ⟨g, by omega, fun t ht => hsub t ?_⟩
      unfold tokC
      have hel : ¬ (nodeAt ts (k + p)).name.size = 0 := by
        rcases hB.up j hj with h' | ⟨q, _, eq, hq⟩
        · exact absurd h' h0
        · have : q = p := by omega
          subst this
          obtain ⟨h1, h2⟩ := hq
          have := (branch_node hk (j := q) (by omega)).1
          rw [this, nodeAt_at h1]
          exact h2
      rw [if_neg hel]
      refine List.mem_cons_of_mem _ (List.mem_append_left _ (List.mem_flatMap.2 ⟨k + j, ?_, ?_⟩))
      · rw [kids_off hT hk (by omega)]
        refine List.mem_map.2 ⟨j, ?_, rfl⟩
        unfold kidsN kidsTo
        rw [List.mem_filter, List.mem_range]
        refine ⟨hj, ?_⟩
        rw [hp, decide_eq_true (show p < j by omega), decide_eq_true rfl]
        rfl
      · rw [← sdC_kid hB hj hp]
        exact ht

/-- Where its tokens are right, it is a tree. -/
theorem treeC_tree (hT : TreeP ts) (hk : k < ts.length) (he : elN ts k) {f : Nat} (hf : ts.length - k ≤ f) (hr : ∀ t ∈ tokC ts f k [], tokB t = true) : TreeP (treeC ts k) := by
  have hB := branch_tree hT hk he
  have hlen := branchL_len hk
  have hle := endN_le hk
  have hnm : ∀ j, j < (branchL ts k).length → (nodeC ts k j).name = (nodeAt (branchL ts k) j).name := fun j hj => (branch_node hk (j := j) (by omega)).1
  have hel : ∀ j, elN (branchL ts k) j → elN (treeC ts k) j := fun j ⟨h1, h2⟩ => by
    refine ⟨by rw [treeC_len]; exact h1, ?_⟩
    have e1 := treeC_node (ts := ts) (k := k) h1
    rw [nodeAt_at (by rw [treeC_len]; exact h1)] at e1
    rw [e1, hnm j h1, nodeAt_at h1]
    exact h2
  refine ⟨by rw [treeC_len]; exact hB.1, by rw [treeC_len]; exact hB.2.1, by rw [treeC_par]; exact hB.2.2.1, hel 0 hB.2.2.2.1, fun j hj => ?_⟩
  have hjB : j < (branchL ts k).length := by rw [← treeC_len]; exact hj
  obtain ⟨⟨q1, q2⟩, q3, q4, q5⟩ := hB.2.2.2.2 j hjB
  have eC := treeC_node (ts := ts) (k := k) hjB
  rw [nodeAt_at hj] at eC
  refine ⟨⟨hj, ?_⟩, ?_, by rw [chain_same treeC_par]; exact q4, ?_⟩
  · rw [eC]
    obtain ⟨g, hg, hsub⟩ := tokC_sub hT hk he hf (j + 1) j (by omega) hjB
    obtain ⟨g, rfl⟩ : ∃ g', g = g' + 1 := ⟨g - 1, by omega⟩
    unfold nodeB
    show (if (nodeAt ts (k + j)).name.size = 0 then _ else _) = true
    by_cases hn : (nodeAt ts (k + j)).name.size = 0
    · rw [if_pos hn]
      have h1 := hr _ (hsub (txT (nodeAt ts (k + j))) (by unfold tokC; rw [if_pos hn]; simp))
      unfold tokB txT at h1
      simp only [if_neg (show ¬ (3 : Int) = 1 by decide), if_neg (show ¬ (3 : Int) = 2 by decide), if_pos] at h1
      simp only [Bool.and_eq_true] at h1
      unfold nodeC
      simp only [hn, if_true]
      rw [h1.2.2]
      rfl
    · rw [if_neg hn]
      have h1 := hr _ (hsub ⟨1, (nodeAt ts (k + j)).name, attC ts (k + j) (sdC ts k j), ⟨#[]⟩⟩ (by unfold tokC; rw [if_neg hn]; simp))
      unfold tokB at h1
      simp only [if_pos] at h1
      simp only [Bool.and_eq_true] at h1
      have hx : (nodeAt ts (k + j)).text.size = 0 := by
        obtain ⟨⟨z1, z2⟩, _⟩ := hT.2.2.2.2 (k + j) (by omega)
        rw [nodeAt_at z1] at hn ⊢
        unfold nodeB at z2
        rw [if_neg hn] at z2
        simp only [Bool.and_eq_true, decide_eq_true_eq] at z2
        exact z2.2.2
      unfold nodeC
      simp only [hn, if_false]
      rw [h1.1, h1.2.1, decide_eq_true hx]
      rfl
  · rcases q3 with h0 | ⟨p, hp, ep, hq⟩
    · exact .inl h0
    · exact .inr ⟨p, by rw [chain_same treeC_par]; exact hp, by rw [treeC_par]; exact ep, hel p hq⟩
  · rintro ⟨h1, h0, e1, e2, e3⟩
    have hj1 : j - 1 < (branchL ts k).length := by omega
    have eP := treeC_node (ts := ts) (k := k) hj1
    rw [nodeAt_at (by rw [treeC_len]; exact hj1)] at eP
    rw [eC, hnm j hjB, nodeAt_at hjB] at e1
    rw [eP, hnm _ hj1, nodeAt_at hj1] at e2
    rw [eC, eP] at e3
    refine q5 ⟨hjB, h0, e1, e2, ?_⟩
    rw [← parI_at hjB, ← parI_at hj1]
    exact e3

end

end Go.Proofs.YteninofjeidljaaGreat

namespace Go.Proofs.YteninofjeidljaaGreat

open Go.RowKit

set_option linter.unusedVariables false

theorem flat_same {α β : Type} {f g : α → List β} : ∀ {l : List α}, (∀ x ∈ l, f x = g x) → l.flatMap f = l.flatMap g
  | [], _ => rfl
  | x :: l, h => by
    rw [List.flatMap_cons, List.flatMap_cons, h x (by simp), flat_same (fun y hy => h y (by simp [hy]))]

/-- More room changes nothing. -/
theorem tokN_fuel {us : List Tk} : ∀ (f g j : Nat), j < us.length → us.length - j ≤ f → us.length - j ≤ g → tokN us f j = tokN us g j
  | 0, g, j, h, h1, _ => by omega
  | f + 1, 0, j, h, _, h2 => by omega
  | f + 1, g + 1, j, h, h1, h2 => by
    unfold tokN
    by_cases hn : (nodeAt us j).name.size = 0
    · rw [if_pos hn, if_pos hn]
    · rw [if_neg hn, if_neg hn]
      congr 2
      refine flat_same fun x hx => ?_
      unfold kidsTo at hx
      obtain ⟨q1, q2⟩ := List.mem_filter.1 hx
      simp only [Bool.and_eq_true, decide_eq_true_eq] at q2
      have q3 := List.mem_range.1 q1
      have := endN_le h
      exact tokN_fuel f g x (by omega) (by omega) (by omega)

section

variable {ts : List Tk} {k : Nat}

/-- Its tokens are those that are written. -/
theorem treeC_toks (hT : TreeP ts) (hk : k < ts.length) (he : elN ts k) (hC : TreeP (treeC ts k)) : ∀ f j, j < (branchL ts k).length → tokN (treeC ts k) f j = tokC ts f (k + j) (sdC ts k j)
  | 0, j, _ => rfl
  | f + 1, j, hj => by
    have hB := branch_tree hT hk he
    have hlen := branchL_len hk
    have hjC : j < (treeC ts k).length := by rw [treeC_len]; exact hj
    unfold tokN tokC
    rw [treeC_node hj, ← kidsTo_end hC hjC, kids_same treeC_par treeC_len, kids_off hT hk hj, List.flatMap_map]
    show (if (nodeAt ts (k + j)).name.size = 0 then _ else _) = _
    by_cases hn : (nodeAt ts (k + j)).name.size = 0
    · rw [if_pos hn, if_pos hn]
      rfl
    · rw [if_neg hn, if_neg hn]
      have e1 : opT (nodeC ts k j) = ⟨1, (nodeAt ts (k + j)).name, attC ts (k + j) (sdC ts k j), ⟨#[]⟩⟩ := by
        unfold opT nodeC
        simp only [hn, if_false]
      rw [e1]
      congr 2
      refine flat_same fun x hx => ?_
      have hxl := kidsN_lt hx
      unfold kidsN kidsTo at hx
      have q2 := (List.mem_filter.1 hx).2
      simp only [Bool.and_eq_true, decide_eq_true_eq] at q2
      rw [treeC_toks hT hk he hC f x hxl, sdC_kid hB hxl q2.2]

/-- What is written grows to its tree. -/
theorem canon_grown (hT : TreeP ts) (hk : k < ts.length) (he : elN ts k) {f : Nat} (hf : ts.length - k ≤ f) (hr : ∀ t ∈ tokC ts f k [], tokB t = true) : TreeP (treeC ts k) ∧ grownT (tokC ts f k []) = some (treeC ts k) := by
  have hC := treeC_tree hT hk he hf hr
  have hlen := branchL_len hk
  have hle := endN_le hk
  have h0 : 0 < (branchL ts k).length := by omega
  refine ⟨hC, ?_⟩
  have e := treeC_toks hT hk he hC f 0 h0
  rw [sdC_zero, Nat.add_zero] at e
  rw [← e, tokN_fuel f (treeC ts k).length 0 (by rw [treeC_len]; exact h0) (by rw [treeC_len]; omega) (by omega)]
  exact grown_toks hC

end

end Go.Proofs.YteninofjeidljaaGreat

namespace Go.Proofs.YteninofjeidljaaGreat

open Go.RowKit

set_option linter.unusedVariables false

theorem app_nilB (s : ByteArray) : s ++ (⟨#[]⟩ : ByteArray) = s := by apply ByteArray.ext; simp [ByteArray.data_append]

theorem nil_appB (s : ByteArray) : (⟨#[]⟩ : ByteArray) ++ s = s := by apply ByteArray.ext; simp [ByteArray.data_append]

theorem app_assB (s t u : ByteArray) : (s ++ t) ++ u = s ++ (t ++ u) := by apply ByteArray.ext; simp [ByteArray.data_append, Array.append_assoc]

theorem cat_fromB : ∀ (ss : List ByteArray) (s : ByteArray), ss.foldl (fun s x => s ++ x) s = s ++ catL ss
  | [], s => (app_nilB s).symm
  | x :: ss, s => by
    unfold catL
    rw [List.foldl_cons, List.foldl_cons, cat_fromB ss, cat_fromB ss, nil_appB, app_assB]

theorem catL_cons (x : ByteArray) (ss : List ByteArray) : catL (x :: ss) = x ++ catL ss := by
  show (x :: ss).foldl (fun s x => s ++ x) ⟨#[]⟩ = _
  rw [List.foldl_cons, cat_fromB, nil_appB]

theorem esc_join {s t : ByteArray} (h1 : plainL s.data.toList = true) (h2 : plainL t.data.toList = true) : escS false (s ++ t) = escS false s ++ escS false t := by
  have e : (s ++ t).data.toList = s.data.toList ++ t.data.toList := by rw [ByteArray.data_append, Array.toList_append]
  have h3 : plainL (s.data.toList ++ t.data.toList) = true := by
    unfold plainL at h1 h2 ⊢
    rw [List.all_append, h1, h2]
    rfl
  unfold escS escapedL
  rw [e, if_pos h3, if_pos h1, if_pos h2]
  unfold escL
  rw [List.flatMap_append]
  apply ByteArray.ext
  simp [ByteArray.data_append]

/-- Two rows of kids: each has its like, or two texts side by side have one for both. -/
inductive Pairs (ts us : List Tk) (but but' : Int) (φ : Nat → Nat) (D : Nat → Prop) : List Nat → List Nat → Prop where
  | nil : Pairs ts us but but' φ D [] []
  | one {j : Nat} {K K' : List Nat} : D j → Pairs ts us but but' φ D K K' → Pairs ts us but but' φ D (j :: K) (φ j :: K')
  | two {i j m : Nat} {K K' : List Nat} : (¬ (i : Int) = but ∧ ¬ (j : Int) = but ∧ ¬ (m : Int) = but') → ((nodeAt ts i).name.size = 0 ∧ (nodeAt ts j).name.size = 0 ∧ (nodeAt us m).name.size = 0) →
      (plainL (nodeAt ts i).text.data.toList = true ∧ plainL (nodeAt ts j).text.data.toList = true) → (nodeAt us m).text = (nodeAt ts i).text ++ (nodeAt ts j).text → Pairs ts us but but' φ D K K' → Pairs ts us but but' φ D (i :: j :: K) (m :: K')

theorem pairs_cat {ts us : List Tk} {but but' : Int} {φ : Nat → Nat} {D : Nat → Prop} {f : Nat} {sd : List At} (hf : ∀ j, D j → canonN ts but f j sd = canonN us but' f (φ j) sd) {K K' : List Nat} (h : Pairs ts us but but' φ D K K') :
    catL (K.map fun j => canonN ts but f j sd) = catL (K'.map fun j => canonN us but' f j sd) := by
  induction h with
  | nil => rfl
  | one hj _ ih => rw [List.map_cons, List.map_cons, catL_cons, catL_cons, ih, hf _ hj]
  | @two i j m K K' hb hn hp ht _ ih =>
    rw [List.map_cons, List.map_cons, List.map_cons, catL_cons, catL_cons, catL_cons, ih, ← app_assB]
    congr 1
    cases f with
    | zero => exact app_nilB _
    | succ f => rw [canonN_text rfl hb.1 hn.1, canonN_text rfl hb.2.1 hn.2.1, canonN_text rfl hb.2.2 hn.2.2, ht, esc_join hp.1 hp.2]

/-- What looks alike but for joined texts is written alike. -/
theorem canon_pairs {ts us : List Tk} {but but' : Int} (φ : Nat → Nat) (D : Nat → Prop) (hA : ∀ i, D i → AlikeN ts us i (φ i)) (hb : ∀ i, D i → ¬ (i : Int) = but ∧ ¬ (φ i : Int) = but')
    (hK : ∀ i, D i → ¬ (nodeAt ts i).name.size = 0 → Pairs ts us but but' φ D ((kidsN ts i).filter (notB but)) ((kidsN us (φ i)).filter (notB but'))) :
    ∀ f i sd, D i → canonN ts but f i sd = canonN us but' f (φ i) sd
  | 0, i, sd, _ => rfl
  | f + 1, i, sd, hi => by
    have a := hA i hi
    obtain ⟨b1, b2⟩ := hb i hi
    by_cases hn : (nodeAt ts i).name.size = 0
    · rw [canonN_text rfl b1 hn, canonN_text rfl b2 (by rw [a.name]; exact hn), a.text]
    · rw [canonN_el rfl b1 hn, canonN_el rfl b2 (by rw [a.name]; exact hn)]
      have ed := dcl_congr (ts := ts) (us := us) (k := i) (m := φ i) (preL7 (nodeAt ts i).name (nodeAt ts i).attrs) sd ((⟨#[60]⟩ : ByteArray) ++ (nodeAt ts i).name) (a.mean hn)
      have eh : headS us (φ i) sd (nodeAt us (φ i)) = headS ts i sd (nodeAt ts i) := by
        unfold headS
        rw [a.oth hn, a.pre hn, a.name, ← ed]
      have es : saidL us (φ i) sd (nodeAt us (φ i)) = saidL ts i sd (nodeAt ts i) := by
        unfold saidL
        rw [a.pre hn, a.name, ← ed]
      have zero : ∀ (tt : List Tk) (b : Int) (sd : List At) (j : Nat), (j : Int) = b → canonN tt b f j sd = ⟨#[]⟩ := fun tt b sd j hj => by
        cases f with
        | zero => rfl
        | succ f => exact canonN_but hj
      rw [fold_cat _ but _ _ (zero ts but _), fold_cat _ but' _ _ (zero us but' _), eh, es, a.name]
      congr 4
      exact pairs_cat (fun j hj => canon_pairs φ D hA hb hK f j _ hj) (hK i hi hn)

end Go.Proofs.YteninofjeidljaaGreat
