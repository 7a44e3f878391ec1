/- A branch is a tree by itself (mathematics alone). A tree without a node and all it has (mathematics alone). Contract of the specification's l10Cut. -/
import Derived.Test.YtkejmifkjgpdjaaM9
import Derived.Test.YtkejmifkjgpdjaaM13
import Derived.Test.YtkejmifkjgpdjaaM12
import Derived.Deep.CutRange
import Derived.Deep.QuietTactic
import Derived.BigQuiet
import Derived.Deep.RegionHeld3
namespace Go.Proofs.Ytkejmifkjgpdjaa
open Go.RowKit
set_option linter.unusedVariables false

theorem drop_none {p : Nat → Bool} : ∀ {l : List Nat}, l.dropWhile p = [] → ∀ x ∈ l, p x = true
  | [], _, x, hx => absurd hx List.not_mem_nil
  | y :: l, h, x, hx => by
    rw [List.dropWhile_cons] at h
    split at h
    · rename_i hy
      rcases List.mem_cons.1 hx with rfl | h'
      · exact hy
      · exact drop_none h x h'
    · cases h

section
variable {ts : List Tk} {k : Nat}

theorem branch_at (hk : k < ts.length) {j : Nat} (hj : k + j < endN ts k) {t : Tk} (ht : ts[k + j]? = some t) : (branchL ts k)[j]? = some (shK (if j = 0 then -1 else t.kind - (k : Int)) t) := by
  have h := endN_le hk
  unfold branchL
  rw [segN_get _ (by omega) j (by omega) t ht]
  unfold brF
  by_cases e : j = 0
  · subst e
    rw [if_pos (Nat.add_zero k), if_pos rfl]
  · rw [if_neg (by omega), if_neg e]

theorem branch_get (hk : k < ts.length) {j : Nat} (hj : k + j < endN ts k) : ∃ (h1 : k + j < ts.length) (h2 : j < (branchL ts k).length), (branchL ts k)[j] = shK (if j = 0 then -1 else ts[k + j].kind - (k : Int)) ts[k + j] := by
  have h := endN_le hk
  have h1 : k + j < ts.length := by omega
  have h2 : j < (branchL ts k).length := by rw [branchL_len hk]; omega
  refine ⟨h1, h2, ?_⟩
  have e := branch_at hk hj (List.getElem?_eq_getElem h1)
  rw [List.getElem?_eq_getElem h2] at e
  exact Option.some.inj e

theorem branch_par (hk : k < ts.length) {j : Nat} (hj : k + j < endN ts k) : parI (branchL ts k) j = if j = 0 then -1 else parI ts (k + j) - (k : Int) := by
  have h := endN_le hk
  have ht := List.getElem?_eq_getElem (show k + j < ts.length by omega)
  unfold parI
  rw [branch_at hk hj ht, ht]
  rfl

/-- What is open within, and what is open around. -/
theorem chain_branch (hT : TreeP ts) (hk : k < ts.length) : ∀ j, k + j < endN ts k → chainF ts (k + j + 1) = (chainF (branchL ts k) (j + 1)).map (fun x => k + x) ++ (chainF ts (k + 1)).tail
  | 0, _ => by
    show chainF ts (k + 1) = (List.map (fun x => k + x) [0]) ++ _
    obtain ⟨r, e⟩ := chain_head ts k
    rw [e]
    rfl
  | j + 1, hj => by
    have hle := endN_le hk
    have ih := chain_branch hT hk j (by omega)
    have hup := hT.up (k + (j + 1)) (by omega)
    have hin : (k : Int) ≤ parI ts (k + (j + 1)) := endN_in hk (by omega) hj
    rcases hup with h0 | ⟨p, hp, hpp, _⟩
    · omega
    · have hpk : k ≤ p := by omega
      have e1 : chainF ts (k + (j + 1) + 1) = (k + (j + 1)) :: (chainF ts (k + j + 1)).dropWhile (fun (x : Nat) => !decide ((x : Int) = parI ts (k + (j + 1)))) := rfl
      have e2 : chainF (branchL ts k) (j + 1 + 1) = (j + 1) :: (chainF (branchL ts k) (j + 1)).dropWhile (fun (x : Nat) => !decide ((x : Int) = parI (branchL ts k) (j + 1))) := rfl
      have e3 : parI (branchL ts k) (j + 1) = parI ts (k + (j + 1)) - (k : Int) := by rw [branch_par hk hj, if_neg (by omega)]
      have hR : ∀ x ∈ (chainF ts (k + 1)).tail, x < k := by
        intro x hx
        obtain ⟨r, e⟩ := chain_head ts k
        rw [e] at hx
        have hL := (hT.linked k hk).1
        rw [e] at hL
        match r, hL, hx with
        | y :: r', hL, hx =>
          have h1 := hL.2.1
          have h2 := hL.tail.le x hx
          omega
      have hm : p ∈ (chainF (branchL ts k) (j + 1)).map (fun x => k + x) := by
        have hp' : p ∈ chainF ts (k + j + 1) := hp
        rw [ih] at hp'
        rcases List.mem_append.1 hp' with h' | h'
        · exact h'
        · have := hR p h'; omega
      rw [e1, e2, ih, List.map_cons, List.cons_append, e3]
      congr 1
      rw [List.dropWhile_append, List.dropWhile_map]
      have ef : ((fun (x : Nat) => !decide ((x : Int) = parI ts (k + (j + 1)))) ∘ fun x => k + x) = fun (x : Nat) => !decide ((x : Int) = parI ts (k + (j + 1)) - (k : Int)) := by
        funext x
        show (!decide (((k + x : Nat) : Int) = _)) = _
        congr 1
        apply decide_eq_decide.2
        omega
      rw [ef, if_neg]
      intro hemp
      obtain ⟨q, hq, e⟩ := List.mem_map.1 hm
      have hne : (chainF (branchL ts k) (j + 1)).dropWhile (fun (x : Nat) => !decide ((x : Int) = parI ts (k + (j + 1)) - (k : Int))) = [] := by
        simpa using hemp
      have hall := drop_none hne q hq
      simp only [Bool.not_eq_true', decide_eq_false_iff_not] at hall
      apply hall
      omega

/-- A branch is a tree by itself. -/
theorem branch_tree (hT : TreeP ts) (hk : k < ts.length) (he : elN ts k) : TreeP (branchL ts k) := by
  have hle := endN_le hk
  have hlen := branchL_len hk
  have h50 := hT.2.1
  refine ⟨by omega, by omega, by rw [branch_par hk (by omega)]; rfl, ?_, fun j hj => ?_⟩
  · obtain ⟨h1, h2, e⟩ := branch_get hk (j := 0) (by omega)
    refine ⟨h2, ?_⟩
    rw [e]
    exact he.2
  · have hje : k + j < endN ts k := by omega
    obtain ⟨h1, h2, e⟩ := branch_get hk hje
    obtain ⟨⟨_, n1⟩, n2, n3, n4⟩ := hT.2.2.2.2 (k + j) h1
    refine ⟨⟨h2, ?_⟩, ?_, ?_, ?_⟩
    · rw [e]
      exact n1
    · by_cases h0 : j = 0
      · exact .inl h0
      · right
        obtain ⟨i, rfl⟩ : ∃ i, j = i + 1 := ⟨j - 1, by omega⟩
        have hin : (k : Int) ≤ parI ts (k + (i + 1)) := endN_in hk (by omega) hje
        rcases n2 with n2 | ⟨p, p1, p2, p3⟩
        · omega
        · have hc := chain_branch hT hk i (by omega)
          have p1' : p ∈ chainF ts (k + i + 1) := p1
          rw [hc] at p1'
          have hR : ∀ x ∈ (chainF ts (k + 1)).tail, x < k := by
            intro x hx
            obtain ⟨r, e⟩ := chain_head ts k
            rw [e] at hx
            have hL := (hT.linked k hk).1
            rw [e] at hL
            match r, hL, hx with
            | y :: r', hL, hx =>
              have h1 := hL.2.1
              have h2 := hL.tail.le x hx
              omega
          rcases List.mem_append.1 p1' with h' | h'
          · obtain ⟨q, hq, rfl⟩ := List.mem_map.1 h'
            have hqi : k + q < k + (i + 1) := by
              have := (hT.linked (k + i) (by omega)).2 (k + q) (by rw [hc]; exact List.mem_append.2 (.inl h'))
              omega
            refine ⟨q, hq, by rw [branch_par hk hje, if_neg (by omega)]; omega, ?_⟩
            obtain ⟨g1, g2, g3⟩ := branch_get hk (j := q) (by omega)
            obtain ⟨_, p4⟩ := p3
            exact ⟨g2, by rw [g3]; exact p4⟩
          · have := hR p h'
            omega
    · have hc := chain_branch hT hk j hje
      have := congrArg List.length hc
      rw [List.length_append, List.length_map] at this
      omega
    · rintro ⟨g1, g2, g3, g4, g5⟩
      obtain ⟨i, rfl⟩ : ∃ i, j = i + 1 := ⟨j - 1, by omega⟩
      obtain ⟨m1, m2, m3⟩ := branch_get hk (j := i) (by omega)
      have g4' : ((branchL ts k)[i]).name.size = 0 := g4
      have g5' : ((branchL ts k)[i]).kind = ((branchL ts k)[i + 1]).kind := g5
      rw [m3] at g4' g5'
      rw [e] at g3 g5'
      have hi0 : ¬ i = 0 := by
        intro h0
        subst h0
        obtain ⟨_, he2⟩ := he
        exact he2 g4'
      refine n4 ⟨h1, by omega, g3, ?_, ?_⟩
      · exact g4'
      · have h6 : (if i = 0 then -1 else ts[k + i].kind - (k : Int)) = (if i + 1 = 0 then -1 else ts[k + (i + 1)].kind - (k : Int)) := g5'
        rw [if_neg hi0, if_neg (by omega)] at h6
        show ts[k + i].kind = ts[k + (i + 1)].kind
        omega

end

end Go.Proofs.Ytkejmifkjgpdjaa

namespace Go.Proofs.Ytkejmifkjgpdjaa
open Go.RowKit
set_option linter.unusedVariables false

/-- Of two chains from one on each is the other. -/
theorem linked_uni {ts : List Tk} : ∀ {c d : List Nat} {x : Nat}, Linked ts (x :: c) → Linked ts (x :: d) → c = d
  | [], [], x, _, _ => rfl
  | [], z :: d, x, h, k => by
    have h0 : x = 0 := h
    have := k.2.1
    omega
  | y :: c, [], x, h, k => by
    have h0 : x = 0 := k
    have := h.2.1
    omega
  | y :: c, z :: d, x, h, k => by
    have e : y = z := by
      have h1 := h.1
      have k1 := k.1
      omega
    subst e
    rw [linked_uni h.tail k.tail]

/-- Who stands behind all that a node has is in none of it. -/
theorem out_kind {ts : List Tk} (hT : TreeP ts) {a : Nat} (ha : a < ts.length) {i : Nat} (hi : endN ts a ≤ i) (hn : i < ts.length) : parI ts i < (a : Int) ∨ (endN ts a : Int) ≤ parI ts i := by
  have hle := endN_le ha
  rcases Nat.lt_or_eq_of_le hi with h' | h'
  · rcases hT.up i hn with h0 | ⟨p, hpm, ep, _⟩
    · omega
    · by_cases h1 : p < a
      · left; omega
      · by_cases h2 : endN ts a ≤ p
        · right; omega
        · exfalso
          have hin := in_chain hT ha (p - a) (by omega)
          rw [show a + (p - a) + 1 = p + 1 by omega] at hin
          have hL := hT.linked (i - 1) (by omega)
          rw [show i - 1 + 1 = i by omega] at hL
          obtain ⟨r, e1, e2⟩ := hL.1.drop p hpm
          have hL2 := hT.linked p (by omega)
          obtain ⟨r2, e3⟩ := chain_head ts p
          rw [e3] at hin hL2
          have er := linked_uni e2 hL2.1
          have hmem : a ∈ chainF ts i := by
            refine (List.dropWhile_sublist (fun (j : Nat) => !decide ((j : Int) = (p : Int)))).mem ?_
            rw [e1, er]
            exact hin
          have := out_chain hT ha (i - endN ts a - 1) (by omega)
          rw [show endN ts a + (i - endN ts a - 1) + 1 = i by omega] at this
          exact this hmem
  · subst h'
    left
    rcases endN_stop ha with h' | h'
    · omega
    · exact h'

/-- Who is whose parent without what stood from a to e. -/
def cutF (a e : Nat) (t : Tk) : Int := if (e : Int) ≤ t.kind then t.kind - ((e : Int) - (a : Int)) else t.kind

/-- What is out, of the first i. -/
def outC (ts : List Tk) (a e i : Nat) : List Tk := ts.take (min i a) ++ segN (fun _ t => cutF a e t) ts e (i - e)

theorem outC_zero (ts : List Tk) (a e : Nat) : outC ts a e 0 = [] := by
  unfold outC
  rw [Nat.zero_min, List.take_zero, Nat.zero_sub]
  rfl

theorem outC_skip {ts : List Tk} {a e i : Nat} (h1 : a ≤ i) (h2 : i < e) : outC ts a e (i + 1) = outC ts a e i := by
  unfold outC
  rw [Nat.min_eq_right h1, Nat.min_eq_right (by omega), show i + 1 - e = 0 by omega, show i - e = 0 by omega]

theorem outC_low {ts : List Tk} {a e i : Nat} (hae : a ≤ e) (h : i < a) (hi : i < ts.length) : outC ts a e (i + 1) = outC ts a e i ++ [ts[i]] := by
  unfold outC
  rw [Nat.min_eq_left (by omega), Nat.min_eq_left (by omega), show i + 1 - e = 0 by omega, show i - e = 0 by omega]
  show List.take (i + 1) ts ++ [] = (List.take i ts ++ []) ++ [ts[i]]
  rw [List.append_nil, List.append_nil, List.take_succ_eq_append_getElem hi]

theorem outC_high {ts : List Tk} {a e i : Nat} (hae : a ≤ e) (h : e ≤ i) (hi : i < ts.length) : outC ts a e (i + 1) = outC ts a e i ++ [shK (cutF a e ts[i]) ts[i]] := by
  unfold outC
  rw [Nat.min_eq_right (by omega), Nat.min_eq_right (by omega), show i + 1 - e = (i - e) + 1 by omega, segN_next (t := ts[i]) (by rw [show e + (i - e) = i by omega]; exact List.getElem?_eq_getElem hi), List.append_assoc]

theorem outC_len {ts : List Tk} {a e i : Nat} (hae : a ≤ e) (he : e ≤ ts.length) (hi : i ≤ ts.length) : (outC ts a e i).length = min i a + (i - e) := by
  unfold outC
  rw [List.length_append, List.length_take]
  by_cases h : e ≤ i
  · rw [segN_len _ (by omega)]
    omega
  · rw [show i - e = 0 by omega]
    show min (min i a) ts.length + 0 = _
    omega

section
variable {ts : List Tk} {a : Nat}

theorem low_kind (hT : TreeP ts) {i : Nat} (hi : i < ts.length) : parI ts i < (i : Int) := by
  rcases hT.up i hi with h0 | ⟨p, hp, ep, _⟩
  · subst h0
    rw [hT.2.2.1]
    omega
  · rcases Nat.eq_zero_or_pos i with h0 | h0
    · subst h0; rw [hT.2.2.1]; omega
    · have hL := (hT.linked (i - 1) (by omega)).2
      rw [show i - 1 + 1 = i by omega] at hL
      have := hL p hp
      omega

/-- The last that is out, ahead of one that stays. -/
theorem outC_last {e i : Nat} (hae : a ≤ e) (he : e ≤ ts.length) (ha1 : 1 ≤ a) (hi : i < ts.length) (h0 : 0 < i) (hx : i < a ∨ e ≤ i) : ∃ t, (outC ts a e i)[(outC ts a e i).length - 1]? = some t ∧ (i < a → ts[i - 1]? = some t) ∧ (i = e → ts[a - 1]? = some t) ∧ (e < i → ∃ u, ts[i - 1]? = some u ∧ t = shK (cutF a e u) u) := by
  have hl := outC_len hae he (show i ≤ ts.length by omega)
  rcases hx with hx | hx
  · have hlt : i - 1 < ts.length := by omega
    refine ⟨ts[i - 1], ?_, fun _ => List.getElem?_eq_getElem hlt, fun _ => by omega, fun _ => by omega⟩
    rw [hl, Nat.min_eq_left (by omega), show i - e = 0 by omega, Nat.add_zero]
    unfold outC
    rw [Nat.min_eq_left (by omega), List.getElem?_append_left (by rw [List.length_take]; omega), List.getElem?_take, if_pos (by omega)]
    exact List.getElem?_eq_getElem hlt
  · rcases Nat.lt_or_eq_of_le hx with h' | h'
    · have hlt : i - 1 < ts.length := by omega
      refine ⟨shK (cutF a e ts[i - 1]) ts[i - 1], ?_, fun _ => by omega, fun _ => by omega, fun _ => ⟨ts[i - 1], List.getElem?_eq_getElem hlt, rfl⟩⟩
      rw [hl, Nat.min_eq_right (by omega)]
      unfold outC
      have hta : (ts.take (min i a)).length = a := by rw [List.length_take]; omega
      rw [List.getElem?_append_right (by rw [hta]; omega), hta, segN_get _ (by omega) (a + (i - e) - 1 - a) (by omega) ts[i - 1] (by rw [show e + (a + (i - e) - 1 - a) = i - 1 by omega]; exact List.getElem?_eq_getElem hlt)]
    · subst h'
      have hlt : a - 1 < ts.length := by omega
      refine ⟨ts[a - 1], ?_, fun _ => by omega, fun _ => List.getElem?_eq_getElem hlt, fun _ => by omega⟩
      rw [hl, Nat.min_eq_right (by omega), Nat.sub_self, Nat.add_zero]
      unfold outC
      rw [Nat.min_eq_right (by omega), List.getElem?_append_left (by rw [List.length_take]; omega), List.getElem?_take, if_pos (by omega)]
      exact List.getElem?_eq_getElem hlt

/-- Elsewhere no two texts come to stand side by side. -/
theorem no_join (hT : TreeP ts) (ha : a < ts.length) (ha1 : 1 ≤ a) {i : Nat} (hi : i < ts.length) (h0 : 0 < i) (hx : i < a ∨ endN ts a < i) {t : Tk} (ht : (outC ts a (endN ts a) i)[(outC ts a (endN ts a) i).length - 1]? = some t) : ¬ (ts[i].name.size = 0 ∧ t.name.size = 0 ∧ t.kind = cutF a (endN ts a) ts[i]) := by
  have hle := endN_le ha
  rintro ⟨h1, h2, h3⟩
  obtain ⟨t', e1, e2, e3, e4⟩ := outC_last (ts := ts) (a := a) (e := endN ts a) (by omega) hle.2 ha1 hi h0 (by omega)
  rw [ht] at e1
  have : t = t' := Option.some.inj e1
  subst this
  have htw := (hT.2.2.2.2 i hi).2.2.2
  rcases hx with hx | hx
  · have e5 := e2 hx
    rw [List.getElem?_eq_getElem (show i - 1 < ts.length by omega)] at e5
    have e6 := Option.some.inj e5
    refine htw ⟨hi, h0, h1, by rw [e6]; exact h2, ?_⟩
    rw [e6, h3]
    have hk := low_kind hT hi
    rw [parI_at hi] at hk
    unfold cutF
    rw [if_neg (by omega)]
  · obtain ⟨u, e5, e6⟩ := e4 hx
    rw [List.getElem?_eq_getElem (show i - 1 < ts.length by omega)] at e5
    have e7 := Option.some.inj e5
    subst e6
    have h2' : u.name.size = 0 := h2
    have h3' : cutF a (endN ts a) u = cutF a (endN ts a) ts[i] := h3
    refine htw ⟨hi, h0, h1, by rw [e7]; exact h2', ?_⟩
    rw [e7]
    have k1 := out_kind hT ha (i := i) (by omega) hi
    have k2 := out_kind hT ha (i := i - 1) (by omega) (by omega)
    rw [parI_at hi] at k1
    rw [parI_at (show i - 1 < ts.length by omega), e7] at k2
    unfold cutF at h3'
    split at h3' <;> split at h3' <;> omega

end

/-- The two texts there are one. -/
def joinC (ts : List Tk) (a e : Nat) (t u : Tk) : List Tk :=
  (ts.take a).set (a - 1) ⟨t.kind, t.name, t.attrs, t.text ++ u.text⟩ ++ segN (fun _ r => if (e : Int) < r.kind then r.kind - ((e : Int) - (a : Int)) - 1 else r.kind) ts (e + 1) (ts.length - (e + 1))

/-- Two texts come to stand side by side there. -/
noncomputable def sideB (ts : List Tk) (a e : Nat) : Bool := match ts[a - 1]?, ts[e]? with
  | some t, some u => decide (u.name.size = 0) && (decide (t.name.size = 0) && decide (t.kind = cutF a e u))
  | _, _ => false

/-- A tree without them. -/
noncomputable def cutL (ts : List Tk) (a e : Nat) : List Tk := if sideB ts a e then (match ts[a - 1]?, ts[e]? with | some t, some u => joinC ts a e t u | _, _ => []) else outC ts a e ts.length

theorem cutL_no {ts : List Tk} {a e : Nat} (h : sideB ts a e = false) : cutL ts a e = outC ts a e ts.length := by
  unfold cutL
  rw [if_neg (by rw [h]; exact Bool.false_ne_true)]

theorem cutL_yes {ts : List Tk} {a e : Nat} (h : sideB ts a e = true) {t u : Tk} (ht : ts[a - 1]? = some t) (hu : ts[e]? = some u) : cutL ts a e = joinC ts a e t u := by
  unfold cutL
  rw [if_pos h, ht, hu]

end Go.Proofs.Ytkejmifkjgpdjaa

namespace Go.Proofs.Ytkejmifkjgpdjaa
open Go.RowKit
set_option linter.unusedVariables false
set_option linter.unusedSimpArgs false

theorem Bx.drewN {wr W : World} {t : Tk} {nA c1 : Nat} {a1 : Option Addr} (h : Bx wr W t nA a1 c1) (n : Nat) : Bx wr (W.drewN n) t nA a1 c1 := ⟨below_drewN h.bel n, h.box, h.own⟩

/-- The last of such a row. -/
theorem RowOf.last {w wr : World} {v : Value} {L : List Tk} (h : RowOf w wr v L) : ∃ a8 c8, v = .slice a8 L.length c8 ∧ (0 < L.length → ∃ t, L[L.length - 1]? = some t) := by
  obtain ⟨a, c, e, _⟩ := h.tk
  exact ⟨a, c, e, fun h0 => ⟨L[L.length - 1], List.getElem?_eq_getElem (by omega)⟩⟩

set_option maxRecDepth 8000 in
set_option maxHeartbeats 16000000 in
theorem cCutL (A : Option Addr) (cap : Nat) (ts : List Tk) (a : Nat) (w : World) (hR : TkRow w A ts) (hT : TreeP ts) (ha : a < ts.length) (ha1 : 1 ≤ a) (hc : ts.length ≤ cap) (hcm : cap ≤ maxLen) (hz : TksSz 1048576 ts) :
    Calls Try.prog 60 #[.slice A ts.length cap, .int .i64 (a : Int), .int .i64 (endN ts a : Nat)] w fun e w' => ∃ v, e = .returned v ∧ RowOf w w' v (cutL ts a (endN ts a)) := by
  have HR := hid hR
  have HZ := hid hz
  have HT := hid hT
  have HA := hid ha
  have h50 : ts.length ≤ 50 := hT.2.1
  unfold maxLen at hcm
  have HB0 := hid ((Below.refl w.heap.size w).alloc (Nat.le_refl _) (.cells #[] 50))
  have M0 := hid (heap_alloc_new w (.cells #[] 50))
  have hE := endN_le ha
  obtain ⟨E, hEE⟩ : ∃ E, endN ts a = E := ⟨_, rfl⟩
  have HEE := hid hEE
  rw [hEE] at hE ⊢
  obtain ⟨R, hRR⟩ : ∃ R, cutL ts a E = R := ⟨_, rfl⟩
  have HRR := hid hRR
  rw [hRR]
  obtain ⟨n, hnn⟩ : ∃ n, ts.length = n := ⟨_, rfl⟩
  have HN := hid hnn
  rw [hnn] at ha hE h50 hc ⊢
  obtain ⟨hE1, hE2⟩ := hE
  clear hR hz hT hEE hnn hRR
  go_enter Try.func60, Try.ntmps60
  go_wp2_with fail
  go_loopw [7, 8] (fun v k wr => ∃ i : Nat, k = .int .i64 (i : Int) ∧ i ≤ n ∧ Hid (RowOf w wr v (outC ts a E i)) ∧ Hid (E < i → sideB ts a E = false)) (fun _ k _ => n - (intOf k).toNat)
  case atStart => exact ⟨0, rfl, Nat.zero_le _, by show RowOf _ _ _ _; rw [outC_zero]; exact RowOf.start HB0.out (Nat.le_refl _) M0.out, by show _ → _; omega⟩
  case round =>
    clear HB0 M0
    obtain ⟨i, rfl, hi, HX, HSD⟩ := hrel
    by_cases hlt : i < n
    · have hin : (i : Int) < (n : Int) := by omega
      have his : i < ts.length := by rw [HN.out]; exact hlt
      by_cases hmid : a ≤ i ∧ i < E
      · have g1 : (a : Int) ≤ (i : Int) := by omega
        have g2 : (i : Int) < (E : Int) := by omega
        have HX2 := hid (show RowOf w wr u7 (outC ts a E (i + 1)) by rw [outC_skip hmid.1 hmid.2]; exact HX.out)
        have HS2 := hid (show E < i + 1 → sideB ts a E = false from fun h => by omega)
        clear hmid
        go_wp2_with fail
        go_roundw
        case rel => exact ⟨i + 1, by go_num, by omega, HX2.out, HS2.out⟩
        case measure => simp [intOf]; omega
      · have HMID := hid hmid
        have HLT := hid (show (outC ts a E i).length ≤ 1048576 by rw [outC_len (by omega) (by rw [HN.out]; exact hE2) (by omega)]; omega)
        have HZT := hid (HZ.out _ (List.getElem_mem his))
        have hkb := tree_kind HT.out (seg_of his)
        have HLK := hid (low_kind HT.out his)
        have HNX := hid (show outC ts a E (i + 1) = outC ts a E i ++ [shK (cutF a E ts[i]) ts[i]] by
          by_cases hia : i < a
          · rw [outC_low (by omega) hia his]
            have hk := low_kind HT.out his
            rw [parI_at his] at hk
            unfold cutF
            rw [if_neg (by omega)]
            rfl
          · exact outC_high (by omega) (by omega) his)
        have HNJ := hid (fun (t0 : Tk) (h0 : (outC ts a E i)[(outC ts a E i).length - 1]? = some t0) (hp : 0 < i) (hx : i < a ∨ E < i) => no_join (a := a) HT.out HA.out ha1 his hp (by rw [HEE.out]; exact hx) (t := t0) (by rw [HEE.out]; exact h0))
        rw [HEE.out] at HNJ
        have HLS := hid (fun (hp : 0 < i) => outC_last (ts := ts) (a := a) (e := E) (i := i) (by omega) (by rw [HN.out]; exact hE2) ha1 his hp (by omega))
        have HTI := hid (seg_of his)
        rw [parI_at his] at HLK
        obtain ⟨b, o, aa, ca, e', hb, q0, q1, q2, q3, hA⟩ := (HR.out.below HX.out.bel) i his
        subst e'
        have HAT := hid hA
        obtain ⟨t, ht⟩ : ∃ t, ts[i] = t := ⟨_, rfl⟩
        rw [ht] at q0 q1 q2 q3 HAT HZT HNX hkb HLK HNJ HTI
        clear ht hA hmid his
        obtain ⟨nA, hnA⟩ : ∃ nA, t.attrs.length = nA := ⟨_, rfl⟩
        have HNA := hid hnA
        rw [hnA] at q2
        clear hnA
        have HL1 := hid ((Below.refl wr.heap.size wr).alloc (Nat.le_refl _) (.cells #[.int .i64 t.kind, .string t.name, .slice aa nA ca, .string t.text] 50))
        have CC := hid (fun wx (h : AtRow wx aa t.attrs) => cCopyS aa ca t.attrs wx h HZT.out.2.1)
        rw [HNA.out] at CC
        obtain ⟨K, hK⟩ : ∃ K, t.kind = K := ⟨_, rfl⟩
        have HKK := hid hK
        rw [hK] at q0 hkb HL1
        obtain ⟨hk1, hk2⟩ := hkb
        clear hK
        go_upto_region 5 with fail
        go_cut [29] from 22 to 28 (fun v wv => v = .bool false ∧ Hid (wr = wv))
        case first =>
          by_cases hia : i < a
          · have g1 : ¬ (a : Int) ≤ (i : Int) := by omega
            go_wp2_with fail
            go_meet
            exact ⟨rfl, rfl⟩
          · have g1 : (a : Int) ≤ (i : Int) := by omega
            have g2 : ¬ (i : Int) < (E : Int) := by have := HMID.out; omega
            go_wp2_with fail
            go_meet
            exact ⟨rfl, rfl⟩
        obtain ⟨rfl, HWC⟩ := hcut
        have hwc := HWC.out
        subst hwc
        clear HWC
        go_wp2_with fail
        refine (CC.out _ (HAT.out.below HL1.out)).mono ?_
        rintro e w2 ⟨a1, c1, rfl, ha1', hb2⟩
        have HBX := hid (Bx.made (c1 := c1) (t := t) (nA := nA) (aa := aa) (ca := ca) (a1 := a1) (w2 := w2) (by rw [HKK.out]; simpa using hb2) (by simpa using ha1'))
        have M2 := hid (blk_below (heap_alloc_new _ _) hb2)
        obtain ⟨⟨x0, x1, x2, x3⟩, f0, f1, f2, f3⟩ := box4 M2.out
        clear ha1' hb2 CC HL1 q0 q1 q2 q3 hb M2
        obtain ⟨w3, hw3⟩ : ∃ w3, w2.setCell ⟨wr.heap.size, 2, none⟩ (.slice a1 nA c1) = w3 := ⟨_, rfl⟩
        rw [hw3] at HBX
        obtain ⟨⟨y0, y1, y2, y3⟩, g0, g1, g2, g3⟩ := box4 HBX.out.box
        rw [HKK.out] at y0
        obtain ⟨GE, hGE⟩ : ∃ GE : Bool, decide ((E : Int) ≤ K) = GE := ⟨_, rfl⟩
        go_upto_if 41 with fail
        go_cut [42] from 43 to 48 (fun _ wv => Hid (Bx wr wv (shK (cutF a E t) t) nA a1 c1))
        case first =>
          have HGE := hid hGE
          clear hGE
          cases GE with
          | true =>
            have HBX4 := hid (HBX.out.kind (K - ((E : Int) - (a : Int))))
            have HCF := hid (show cutF a E t = K - ((E : Int) - (a : Int)) by unfold cutF; rw [HKK.out, if_pos (of_decide_eq_true HGE.out)])
            go_wp2_with fail
            go_meet
            rw [HCF.out]
            exact HBX4.out
          | false =>
            have HCF := hid (show cutF a E t = K by unfold cutF; rw [HKK.out, if_neg (of_decide_eq_false HGE.out)])
            have HBX4 := hid (show Bx wr w3 (shK K t) nA a1 c1 by rw [show shK K t = t by rw [← HKK.out]; rfl]; exact HBX.out)
            go_wp2_with fail
            go_meet
            rw [HCF.out]
            exact HBX4.out
        have HBY := hid hcut.out
        clear hcut HBX x0 x1 x2 x3 y0 y1 y2 y3 g0 g1 g2 g3 f0 f1 f2 f3 hw3 hGE
        obtain ⟨L, hL⟩ : ∃ L, outC ts a E i = L := ⟨_, rfl⟩
        have HL := hid hL
        rw [hL] at HX HLT HNX HNJ HLS
        clear hL
        obtain ⟨a8, c8, hv, htk8⟩ := HX.out.tk
        subst hv
        obtain ⟨m, hm⟩ : ∃ m, L.length = m := ⟨_, rfl⟩
        have HM := hid hm
        rw [hm] at HX HNJ HLS HLT ⊢
        clear hm htk8
        obtain ⟨C, hC⟩ : ∃ C, cutF a E t = C := ⟨_, rfl⟩
        have HC := hid hC
        rw [hC] at HBY HNX HNJ
        clear hC
        obtain ⟨M, hMd⟩ : ∃ M : Bool, M = true ↔ (0 < m ∧ ∃ t0, L[m - 1]? = some t0 ∧ t.name.size = 0 ∧ t0.name.size = 0 ∧ t0.kind = C) := by
          by_cases h : (0 < m ∧ ∃ t0, L[m - 1]? = some t0 ∧ t.name.size = 0 ∧ t0.name.size = 0 ∧ t0.kind = C)
          · exact ⟨true, ⟨fun _ => h, fun _ => rfl⟩⟩
          · exact ⟨false, ⟨fun h' => (by cases h'), fun h' => absurd h' h⟩⟩
        have HMD := hid hMd
        clear hMd
        have E1 := empty_is t.name
        obtain ⟨D1, hD1⟩ : ∃ D1 : Bool, decide (t.name.size = 0) = D1 := ⟨_, rfl⟩
        have HD1 := hid hD1
        rw [hD1] at E1
        clear hD1
        go_upto_region 11 with fail
        go_cut [77] from 51 to 76 (fun v wv => v = .bool M ∧ Hid (Bx wr wv (shK C t) nA a1 c1))
        case first =>
          obtain ⟨⟨y0, y1, y2, y3⟩, g0, g1, g2, g3⟩ := box4 HBY.out.box
          have y0' : wc.cell? ⟨wr.heap.size, 0, none⟩ = some (.int .i64 C) := y0
          have y1' : wc.cell? ⟨wr.heap.size, 1, none⟩ = some (.string t.name) := y1
          clear y0 y1 y2 y3 g0 g1 g2 g3
          by_cases hm0 : m = 0
          · subst hm0
            have HMF := hid (show M = false by
              cases M with
              | false => rfl
              | true => exact absurd (HMD.out.1 rfl).1 (by omega))
            cases D1 with
            | false =>
              go_quiet (fail)
              go_wp2_with fail
              go_meet
              exact ⟨by rw [HMF.out], HBY.out.drewN _⟩
            | true =>
              go_quiet (fail)
              go_wp2_with fail
              go_meet
              exact ⟨by rw [HMF.out], HBY.out.drewN _⟩
          · obtain ⟨q, rfl⟩ : ∃ q, m = q + 1 := ⟨m - 1, by omega⟩
            clear hm0
            have hql : q < L.length := by rw [HM.out]; exact Nat.lt_succ_self _
            have HXC := hid (HX.out.below HBY.out.bel)
            obtain ⟨t0, ht0⟩ : ∃ t0, L[q]? = some t0 := ⟨L[q], List.getElem?_eq_getElem hql⟩
            obtain ⟨g, c, hv, hg, ⟨ab, cb, d0, d1, d2, d3⟩, hfz, _, _⟩ := HXC.out.put ht0
            obtain ⟨rfl, rfl⟩ : a8 = some ⟨g, 0, none⟩ ∧ c8 = c := by injection hv with h1 h2 h3; exact ⟨h1, h3⟩
            have HT0 := hid ht0
            clear hv d2 d3 hfz ht0 hql
            have E2 := empty_is t0.name
            obtain ⟨D2, hD2⟩ : ∃ D2 : Bool, decide (t0.name.size = 0) = D2 := ⟨_, rfl⟩
            have HD2 := hid hD2
            rw [hD2] at E2
            clear hD2
            obtain ⟨D3, hD3⟩ : ∃ D3 : Bool, (t0.kind == C) = D3 := ⟨_, rfl⟩
            have HD3 := hid hD3
            have HMV := hid (show M = (D1 && (D2 && D3)) by
              rw [Bool.eq_iff_iff, HMD.out, ← HD1.out, ← HD2.out, ← HD3.out]
              simp only [Bool.and_eq_true, decide_eq_true_eq, beq_iff_eq]
              constructor
              · rintro ⟨_, t1, k1, k2, k3, k4⟩
                rw [show q + 1 - 1 = q from rfl, HT0.out] at k1
                cases k1
                exact ⟨k2, k3, k4⟩
              · rintro ⟨k2, k3, k4⟩
                exact ⟨Nat.succ_pos _, t0, HT0.out, k2, k3, k4⟩)
            obtain ⟨K0, hK0⟩ : ∃ K0, t0.kind = K0 := ⟨_, rfl⟩
            rw [hK0] at d0 hD3
            obtain ⟨N0, hN0⟩ : ∃ N0, t0.name = N0 := ⟨_, rfl⟩
            rw [hN0] at d1 E2
            clear hK0 hN0 HD3 HD2
            have hq1 : (q : Int) < (q : Int) + 1 := by omega
            have hq0 : decide ((0 : Int) < (q : Int) + 1) = true := decide_eq_true (by omega)
            have hq50 : q ≤ 1048576 := by have := HLT.out; omega
            cases D1 with
            | false =>
              go_quiet (fail)
              go_wp2_with fail
              go_meet
              exact ⟨by rw [HMV.out]; rfl, HBY.out.drewN _⟩
            | true =>
              cases D2 with
              | false =>
                go_quiet (fail)
                go_wp2_with fail
                go_meet
                exact ⟨by rw [HMV.out]; rfl, HBY.out.drewN _⟩
              | true =>
                go_quiet (fail)
                go_wp2_with fail
                go_meet
                exact ⟨by rw [HMV.out]; rfl, HBY.out.drewN _⟩
        obtain ⟨rfl, HBZ⟩ := hcut
        clear HBY
        cases M with
        | false =>
          have HS2 := hid (show E < i + 1 → sideB ts a E = false from fun h => by
            by_cases hEi : E < i
            · exact HSD.out hEi
            · have hie : i = E := by omega
              have hp : 0 < i := by omega
              obtain ⟨t0, k1, _, k3, _⟩ := HLS.out hp
              have hm0 : 0 < m := by
                have h1 := HM.out
                rw [← HL.out, outC_len (by omega) (by rw [HN.out]; exact hE2) (by rw [HN.out]; omega)] at h1
                omega
              unfold sideB
              rw [k3 hie, ← hie, HTI.out]
              simp only
              cases hsd : (decide (t.name.size = 0) && (decide (t0.name.size = 0) && decide (t0.kind = cutF a i t))) with
              | false => rfl
              | true =>
                simp only [Bool.and_eq_true, decide_eq_true_eq] at hsd
                have := HMD.out.2 ⟨hm0, t0, k1, hsd.1, hsd.2.1, by rw [hsd.2.2, hie]; exact HC.out⟩
                cases this)
          obtain ⟨⟨y0, y1, y2, y3⟩, _⟩ := box4 HBZ.out.box
          go_wp2_with (at_builtin; refine wpL_bx w wr _ rfl _ _ rfl (.slice a8 m c8) L rfl HX.out (shK C t) a1 c1 nA rfl HNA.out HBZ.out (by rw [HM.out]; exact HLT.out) ?_)
          intro v6 w6 hr6
          have HR6 := hid hr6
          rw [← HNX.out] at HR6
          clear hr6 y0 y1 y2 y3
          go_wp2_with fail
          go_roundw
          case rel => exact ⟨i + 1, by go_num, by omega, HR6.out, HS2.out⟩
          case measure => simp [intOf]; omega
        | true =>
          obtain ⟨hm0, t0, ht0, k1, k2, k3⟩ := HMD.out.1 rfl
          have hp : 0 < i := by
            rcases Nat.eq_zero_or_pos i with h | h
            · exfalso
              have h1 := HM.out
              rw [← HL.out, h, outC_zero] at h1
              simp at h1
              omega
            · exact h
          have hiE : i = E := by
            by_cases hx : i < a ∨ E < i
            · exact absurd ⟨k1, k2, k3⟩ (HNJ.out t0 ht0 hp hx)
            · have := HMID.out; omega
          obtain ⟨t0', j1, _, j3, _⟩ := HLS.out hp
          have e0 : t0 = t0' := Option.some.inj (ht0.symm.trans j1)
          have HTA := hid (show ts[a - 1]? = some t0 by rw [e0]; exact j3 hiE)
          have HSB := hid (show sideB ts a E = true by
            unfold sideB
            rw [HTA.out, ← hiE, HTI.out]
            simp only [Bool.and_eq_true, decide_eq_true_eq]
            exact ⟨k1, k2, by rw [k3, hiE]; exact HC.out.symm⟩)
          have HRJ := hid (show R = joinC ts a E t0 t by rw [← HRR.out]; exact cutL_yes HSB.out HTA.out (by rw [← hiE]; exact HTI.out))
          have HLA := hid (show L = ts.take a by
            rw [← HL.out, hiE]
            unfold outC
            rw [Nat.min_eq_right (by omega), Nat.sub_self]
            show _ ++ [] = _
            rw [List.append_nil])
          have hma : m = a := by
            have h1 := HM.out
            rw [HLA.out, List.length_take, HN.out] at h1
            omega
          have htx : ¬ 9223372036854775807 < t0.text.size + t.text.size := by
            have h1 := (HZ.out t0 (List.mem_of_getElem? HTA.out)).2.2.2
            have h2 := HZT.out.2.2.2
            omega
          subst hiE
          obtain ⟨q, hq⟩ : ∃ q, m = q + 1 := ⟨m - 1, by omega⟩
          have HQ := hid (show q = a - 1 by omega)
          have HXC := hid (show RowOf w wc.drew (.slice a8 m c8) L from (HX.out.below HBZ.out.bel).below (below_drewN (Below.refl _ _) 1))
          have ht0q : L[q]? = some t0 := by rw [show q = m - 1 by omega]; exact ht0
          obtain ⟨g, c, hv, hg, ⟨ab, cb, d0, d1, d2, d3⟩, hfz, _, hset⟩ := HXC.out.put ht0q
          obtain ⟨rfl, rfl⟩ : a8 = some ⟨g, 0, none⟩ ∧ c8 = c := by injection hv with h1 h2 h3; exact ⟨h1, h3⟩
          obtain ⟨⟨y0, y1, y2, y3⟩, _⟩ := box4 HBZ.out.box
          have HSET := hid (hset (t0.text ++ t.text))
          have hq50 : q ≤ 100 := by omega
          have hq1 : (q : Int) < (q : Int) + 1 := by omega
          have hwq : IntKind.i64.wrap (q : Int) = (q : Int) := IntWalk.i64_in _ (by omega)
          subst hq
          clear hm0 ht0 k1 k2 k3 hp e0 j1 j3 hma ht0q hv hset hg d0 d1 d2 y0 y1 y2
          go_wp2_with fail
          refine wp_region_held_drew (S := fun _ => True) (by kernel_rfl) trivial (fun _ => ?_)
          have D3 := hid (show wc.drew.cell? ⟨g, q * 4 + 3, none⟩ = some (.string t0.text) from d3)
          have Y3 := hid (show wc.drew.cell? ⟨wr.heap.size, 3, none⟩ = some (.string t.text) from y3)
          have F3 := hid (show wc.drew.frozen? ⟨g, q * 4 + 3, none⟩ = false from hfz _)
          have HXD := hid (show RowOf w (wc.drew.setCell ⟨g, q * 4 + 3, none⟩ (.string (t0.text ++ t.text))) (.slice (some ⟨g, 0, none⟩) (q + 1) c8) (L.set q ⟨t0.kind, t0.name, t0.attrs, t0.text ++ t.text⟩) from HSET.out)
          generalize wc.drew = W at *
          refine wpAnyH_take (i := 0) (v := ?_) rfl (by kernel_rfl) (by kernel_rfl) (by kernel_rfl) (fun _ _ _ h => h) (Or.inl ⟨by rfl, ?_⟩) trivial ?_
          rotate_left
          · intro w hSw
            go_simp
            try (with_reducible rfl)
          try simp only [Act.put, List.setIfInBounds_toArray, List.set_cons_zero, List.set_cons_succ]
          refine wpAnyH_take (i := 1) (v := ?_) rfl (by kernel_rfl) (by kernel_rfl) (by kernel_rfl) (fun _ _ _ h => h) (Or.inl ⟨by rfl, ?_⟩) trivial ?_
          rotate_left
          · intro w hSw
            go_simp
            try (with_reducible rfl)
          try simp only [Act.put, List.setIfInBounds_toArray, List.set_cons_zero, List.set_cons_succ]
          refine wpAnyH_take (i := 2) (v := ?_) rfl (by kernel_rfl) (by kernel_rfl) (by kernel_rfl) (fun _ _ _ h => h) (Or.inl ⟨by rfl, ?_⟩) trivial ?_
          rotate_left
          · intro w hSw
            go_simp
            try (with_reducible rfl)
          try simp only [Act.put, List.setIfInBounds_toArray, List.set_cons_zero, List.set_cons_succ]
          refine wpAnyH_take (i := 3) (v := ?_) rfl (by kernel_rfl) (by kernel_rfl) (by kernel_rfl) (fun _ _ _ h => h) (Or.inl ⟨by rfl, ?_⟩) trivial ?_
          rotate_left
          · intro w hSw
            go_simp
            try (with_reducible rfl)
          try simp only [Act.put, List.setIfInBounds_toArray, List.set_cons_zero, List.set_cons_succ]
          refine wpAnyH_take (i := 4) (v := ?_) rfl (by kernel_rfl) (by kernel_rfl) (by kernel_rfl) (fun _ _ _ h => h) (Or.inl ⟨by rfl, ?_⟩) trivial ?_
          rotate_left
          · intro w hSw
            go_simp
            try (with_reducible rfl)
          try simp only [Act.put, List.setIfInBounds_toArray, List.set_cons_zero, List.set_cons_succ]
          refine wpAnyH_take (i := 5) (v := ?_) rfl (by kernel_rfl) (by kernel_rfl) (by kernel_rfl) (fun _ _ _ h => h) (Or.inl ⟨by rfl, ?_⟩) trivial ?_
          rotate_left
          · intro w hSw
            go_simp
            try (with_reducible rfl)
          try simp only [Act.put, List.setIfInBounds_toArray, List.set_cons_zero, List.set_cons_succ]
          refine wpAnyH_take (i := 6) (v := ?_) rfl (by kernel_rfl) (by kernel_rfl) (by kernel_rfl) (fun _ _ _ h => h) (Or.inl ⟨by rfl, ?_⟩) trivial ?_
          rotate_left
          · intro w hSw
            go_simp
            try (with_reducible rfl)
          try simp only [Act.put, List.setIfInBounds_toArray, List.set_cons_zero, List.set_cons_succ]
          refine wpAnyH_take (i := 7) (v := ?_) rfl (by kernel_rfl) (by kernel_rfl) (by kernel_rfl) (fun _ _ _ h => h) (Or.inl ⟨by rfl, ?_⟩) trivial ?_
          rotate_left
          · intro w hSw
            go_simp
            try (with_reducible rfl)
          try simp only [Act.put, List.setIfInBounds_toArray, List.set_cons_zero, List.set_cons_succ]
          refine wpAnyH_take (i := 9) (v := ?_) rfl (by kernel_rfl) (by kernel_rfl) (by kernel_rfl) (fun _ _ _ h => h) (Or.inl ⟨by rfl, ?_⟩) trivial ?_
          rotate_left
          · intro w hSw
            go_simp
            try (with_reducible rfl)
          try simp only [Act.put, List.setIfInBounds_toArray, List.set_cons_zero, List.set_cons_succ]
          refine wpAnyH_ready (rs := [8, 10]) (by kernel_rfl) (by simp) (AllReadyH.cons rfl (fun K hK => ?_) (AllReadyH.cons rfl (fun K hK => ?_) AllReadyH.nil))
          · have d3 := D3.out
            go_simp
            refine hK.out _ _ trivial (fun _ => ?_)
            clear hK K
            try simp only [Act.put, List.setIfInBounds_toArray, List.set_cons_zero, List.set_cons_succ]
            clear d3
            refine wpAnyH_ready (rs := [10]) (by kernel_rfl) (by simp) (AllReadyH.cons rfl (fun K hK => ?_) AllReadyH.nil)
            · have y3 := Y3.out
              go_simp
              refine hK.out _ _ trivial (fun _ => ?_)
              clear hK K
              try simp only [Act.put, List.setIfInBounds_toArray, List.set_cons_zero, List.set_cons_succ]
              clear y3
              refine wpAnyH_take (i := 11) (v := ?_) rfl (by kernel_rfl) (by kernel_rfl) (by kernel_rfl) (fun _ _ _ h => h) (Or.inl ⟨by rfl, ?_⟩) trivial ?_
              rotate_left
              · intro w hSw
                go_simp
                try (with_reducible rfl)
              try simp only [Act.put, List.setIfInBounds_toArray, List.set_cons_zero, List.set_cons_succ]
              refine wpAnyH_take (i := 12) (v := ?_) rfl (by kernel_rfl) (by kernel_rfl) (by kernel_rfl) (fun _ _ _ h => h) (Or.inl ⟨by rfl, ?_⟩) trivial ?_
              rotate_left
              · intro w hSw
                go_simp
                try (with_reducible rfl)
              try simp only [Act.put, List.setIfInBounds_toArray, List.set_cons_zero, List.set_cons_succ]
              refine wpAnyH_take (i := 13) (v := ?_) rfl (by kernel_rfl) (by kernel_rfl) (by kernel_rfl) (fun _ _ _ h => h) (Or.inl ⟨by rfl, ?_⟩) trivial ?_
              rotate_left
              · intro w hSw
                go_simp
                try (with_reducible rfl)
              try simp only [Act.put, List.setIfInBounds_toArray, List.set_cons_zero, List.set_cons_succ]
              refine wpAnyH_ready (rs := [14]) (by kernel_rfl) (by simp) (AllReadyH.cons rfl (fun K hK => ?_) AllReadyH.nil)
              · have d3 := D3.out
                have f3 := F3.out
                go_simp
                refine hK.out _ _ trivial (fun _ => ?_)
                clear hK K
                try simp only [Act.put, List.setIfInBounds_toArray, List.set_cons_zero, List.set_cons_succ]
                clear d3 f3
                refine wpAnyH_done (by kernel_rfl) ?_ _
                have HX5 := HXD
                generalize W.setCell ⟨g, q * 4 + 3, none⟩ (.string (t0.text ++ t.text)) = w5 at *
                have HR5 := hid (HR.out.below HX5.out.bel)
                have hsl : ∀ W, (Instr.slice 26 (.slice (some ⟨b, o, none⟩) n cap) (some (.int .i64 ((i : Int) + 1))) none none).run Try.prog W = .ok (.slice (some (if cap = i + 1 then ⟨b, o, none⟩ else ⟨b, o + (i + 1) * 4, none⟩)) (n - (i + 1)) (cap - (i + 1))) W := fun W => by
                  have h := sl_from b o n cap (i + 1) (by omega) hc W
                  rw [show ((i + 1 : Nat) : Int) = (i : Int) + 1 by omega] at h
                  exact h
                have HRD := hid (tk_from (k := i + 1) HR5.out (cap := cap) (by rw [HN.out]; exact hc))
                generalize (if cap = i + 1 then (⟨b, o, none⟩ : Addr) else ⟨b, o + (i + 1) * 4, none⟩) = AD at *
                obtain ⟨d, hd⟩ : ∃ d, n - (i + 1) = d := ⟨_, rfl⟩
                have HD := hid hd
                rw [hd] at hsl
                have hd50 : d ≤ 50 := by omega
                clear hd HXD D3 Y3 F3
                go_wp2_with (at_builtin; refine wpL_fresh w5 rfl _ _ rfl rfl (some AD) (ts.drop (i + 1)) d (cap - (i + 1)) (by rw [List.length_drop, HN.out]; exact HD.out) rfl HRD.out (by omega) ?_)
                intro a11 c11 w6 ht6 hb6
                have HT6 := hid ht6
                have HX6 := hid (HX5.out.below hb6)
                clear ht6 hb6 HX5 hsl
                have HM6 := hid (RowOf.start ((Below.refl w6.heap.size w6).alloc (Nat.le_refl _) (.cells #[] 50)) (Nat.le_refl _) (heap_alloc_new w6 (.cells #[] 50)))
                go_wp2_with fail
                go_loopw [12, 13] (fun v k wr2 => ∃ j : Nat, k = .int .i64 (j : Int) ∧ j ≤ d ∧ Hid (RowOf w6 wr2 v (segN (fun _ r => if (i : Int) < r.kind then r.kind - ((i : Int) - (a : Int)) - 1 else r.kind) ts (i + 1) j))) (fun _ k _ => d - (intOf k).toNat)
                case atStart => exact ⟨0, rfl, Nat.zero_le _, HM6.out⟩
                case round =>
                  clear HM6
                  obtain ⟨j, rfl, hj, HY⟩ := hrel
                  by_cases hjl : j < d
                  · have hjD : j < (ts.drop (i + 1)).length := by rw [List.length_drop, HN.out, HD.out]; exact hjl
                    have hij : i + 1 + j < ts.length := by have := HN.out; have := HD.out; omega
                    have hjn : (j : Int) < (d : Int) := by omega
                    have HTS := hid (segN_next (f := fun _ r => if (i : Int) < r.kind then r.kind - ((i : Int) - (a : Int)) - 1 else r.kind) (ts := ts) (k := i + 1) (m := j) (t := ts[i + 1 + j]) (seg_of hij))
                    have HLY := hid (show (segN (fun _ r => if (i : Int) < r.kind then r.kind - ((i : Int) - (a : Int)) - 1 else r.kind) ts (i + 1) j).length ≤ 1048576 by rw [segN_len j (by omega)]; omega)
                    have hrb := tree_kind HT.out (seg_of hij)
                    have HZR := hid (HZ.out _ (List.getElem_mem hij))
                    obtain ⟨br, orr, ar, cr, er, hbr, p0, p1, p2, p3, hAr⟩ := (HT6.out.below HY.out.bel) j hjD
                    subst er
                    rw [List.getElem_drop] at p0 p1 p2 p3 hAr
                    have HAR := hid hAr
                    obtain ⟨r, hr⟩ : ∃ r, ts[i + 1 + j] = r := ⟨_, rfl⟩
                    rw [hr] at p0 p1 p2 p3 HAR HZR HTS hrb
                    clear hr hAr hjD hij
                    obtain ⟨nR, hnR⟩ : ∃ nR, r.attrs.length = nR := ⟨_, rfl⟩
                    have HNR := hid hnR
                    rw [hnR] at p2
                    clear hnR
                    have HLR := hid ((Below.refl wr.heap.size wr).alloc (Nat.le_refl _) (.cells #[.int .i64 r.kind, .string r.name, .slice ar nR cr, .string r.text] 50))
                    have CR := hid (fun wx (h : AtRow wx ar r.attrs) => cCopyS ar cr r.attrs wx h HZR.out.2.1)
                    rw [HNR.out] at CR
                    obtain ⟨KR, hKR⟩ : ∃ KR, r.kind = KR := ⟨_, rfl⟩
                    have HKR := hid hKR
                    rw [hKR] at p0 hrb HLR
                    obtain ⟨hr1, hr2⟩ := hrb
                    clear hKR
                    go_wp2_with fail
                    refine (CR.out _ (HAR.out.below HLR.out)).mono ?_
                    rintro e w7 ⟨a7, c7, rfl, ha7, hb7⟩
                    have HBR := hid (Bx.made (c1 := c7) (t := r) (nA := nR) (aa := ar) (ca := cr) (a1 := a7) (w2 := w7) (by rw [HKR.out]; simpa using hb7) (by simpa using ha7))
                    have M7 := hid (blk_below (heap_alloc_new _ _) hb7)
                    obtain ⟨⟨x0, x1, x2, x3⟩, f0, f1, f2, f3⟩ := box4 M7.out
                    clear ha7 hb7 CR HLR p0 p1 p2 p3 hbr M7
                    obtain ⟨w8, hw8⟩ : ∃ w8, w7.setCell ⟨wr.heap.size, 2, none⟩ (.slice a7 nR c7) = w8 := ⟨_, rfl⟩
                    rw [hw8] at HBR
                    obtain ⟨⟨z0, z1, z2, z3⟩, g0, g1, g2, g3⟩ := box4 HBR.out.box
                    rw [HKR.out] at z0
                    by_cases hge : (i : Int) < KR
                    · have HBS := hid (HBR.out.kind (KR - ((i : Int) - (a : Int)) - 1))
                      obtain ⟨w9, hw9⟩ : ∃ w9, w8.setCell ⟨wr.heap.size, 0, none⟩ (.int .i64 (KR - ((i : Int) - (a : Int)) - 1)) = w9 := ⟨_, rfl⟩
                      rw [hw9] at HBS
                      obtain ⟨⟨s0, s1, s2, s3⟩, _⟩ := box4 HBS.out.box
                      have HFN := hid (show shK (KR - ((i : Int) - (a : Int)) - 1) r = shK (if (i : Int) < r.kind then r.kind - ((i : Int) - (a : Int)) - 1 else r.kind) r by rw [HKR.out, if_pos hge])
                      have hgd : decide ((i : Int) < KR) = true := decide_eq_true hge
                      go_wp2_with (at_builtin; refine wpL_bx w6 wr w9 rfl _ _ rfl u12 _ rfl HY.out (shK (KR - ((i : Int) - (a : Int)) - 1) r) a7 c7 nR rfl HNR.out HBS.out HLY.out ?_)
                      intro v10 w10 hr10
                      have HR10 := hid hr10
                      rw [HFN.out, ← HTS.out] at HR10
                      clear hr10 x0 x1 x2 x3 z0 z1 z2 z3 s0 s1 s2 s3 hw8 hw9
                      go_wp2_with fail
                      go_roundw
                      case rel => exact ⟨j + 1, by go_num, by omega, HR10.out⟩
                      case measure => simp [intOf]; omega
                    · have HBS := hid (show Bx wr w8 (shK KR r) nR a7 c7 by rw [show shK KR r = r by rw [← HKR.out]; rfl]; exact HBR.out)
                      have HFN := hid (show shK KR r = shK (if (i : Int) < r.kind then r.kind - ((i : Int) - (a : Int)) - 1 else r.kind) r by rw [HKR.out, if_neg hge])
                      have hgd : decide ((i : Int) < KR) = false := decide_eq_false hge
                      go_wp2_with (at_builtin; refine wpL_bx w6 wr w8 rfl _ _ rfl u12 _ rfl HY.out (shK KR r) a7 c7 nR rfl HNR.out HBS.out HLY.out ?_)
                      intro v10 w10 hr10
                      have HR10 := hid hr10
                      rw [HFN.out, ← HTS.out] at HR10
                      clear hr10 x0 x1 x2 x3 z0 z1 z2 z3 hw8
                      go_wp2_with fail
                      go_roundw
                      case rel => exact ⟨j + 1, by go_num, by omega, HR10.out⟩
                      case measure => simp [intOf]; omega
                  · have hjd : j = d := by omega
                    have HJN := hid (show R = L.set q ⟨t0.kind, t0.name, t0.attrs, t0.text ++ t.text⟩ ++ segN (fun _ r => if (i : Int) < r.kind then r.kind - ((i : Int) - (a : Int)) - 1 else r.kind) ts (i + 1) j by
                      rw [HRJ.out, HLA.out, HQ.out]
                      unfold joinC
                      rw [HN.out, HD.out, hjd])
                    have HLN := hid (show (L.set q ⟨t0.kind, t0.name, t0.attrs, t0.text ++ t.text⟩).length + (segN (fun _ r => if (i : Int) < r.kind then r.kind - ((i : Int) - (a : Int)) - 1 else r.kind) ts (i + 1) j).length ≤ 2097152 by
                      rw [List.length_set, HM.out, segN_len j (by rw [HN.out]; have := HD.out; omega)]
                      omega)
                    have hjdn : ¬ (j : Int) < (d : Int) := by omega
                    clear hjd
                    go_wp2_with (at_builtin; refine wpL_two w w6 _ rfl _ _ rfl (.slice (some ⟨g, 0, none⟩) (q + 1) c8) u12 _ _ rfl rfl HX6.out HY.out HLN.out ?_)
                    intro v11 w11 hr11
                    have HR11 := hid hr11
                    rw [← HJN.out] at HR11
                    clear hr11
                    go_wp2_with fail
                    go_ret
                    exact ⟨_, rfl, HR11.out⟩
          · have y3 := Y3.out
            go_simp
            refine hK.out _ _ trivial (fun _ => ?_)
            clear hK K
            try simp only [Act.put, List.setIfInBounds_toArray, List.set_cons_zero, List.set_cons_succ]
            clear y3
            refine wpAnyH_ready (rs := [8]) (by kernel_rfl) (by simp) (AllReadyH.cons rfl (fun K hK => ?_) AllReadyH.nil)
            · have d3 := D3.out
              go_simp
              refine hK.out _ _ trivial (fun _ => ?_)
              clear hK K
              try simp only [Act.put, List.setIfInBounds_toArray, List.set_cons_zero, List.set_cons_succ]
              clear d3
              refine wpAnyH_take (i := 11) (v := ?_) rfl (by kernel_rfl) (by kernel_rfl) (by kernel_rfl) (fun _ _ _ h => h) (Or.inl ⟨by rfl, ?_⟩) trivial ?_
              rotate_left
              · intro w hSw
                go_simp
                try (with_reducible rfl)
              try simp only [Act.put, List.setIfInBounds_toArray, List.set_cons_zero, List.set_cons_succ]
              refine wpAnyH_take (i := 12) (v := ?_) rfl (by kernel_rfl) (by kernel_rfl) (by kernel_rfl) (fun _ _ _ h => h) (Or.inl ⟨by rfl, ?_⟩) trivial ?_
              rotate_left
              · intro w hSw
                go_simp
                try (with_reducible rfl)
              try simp only [Act.put, List.setIfInBounds_toArray, List.set_cons_zero, List.set_cons_succ]
              refine wpAnyH_take (i := 13) (v := ?_) rfl (by kernel_rfl) (by kernel_rfl) (by kernel_rfl) (fun _ _ _ h => h) (Or.inl ⟨by rfl, ?_⟩) trivial ?_
              rotate_left
              · intro w hSw
                go_simp
                try (with_reducible rfl)
              try simp only [Act.put, List.setIfInBounds_toArray, List.set_cons_zero, List.set_cons_succ]
              refine wpAnyH_ready (rs := [14]) (by kernel_rfl) (by simp) (AllReadyH.cons rfl (fun K hK => ?_) AllReadyH.nil)
              · have d3 := D3.out
                have f3 := F3.out
                go_simp
                refine hK.out _ _ trivial (fun _ => ?_)
                clear hK K
                try simp only [Act.put, List.setIfInBounds_toArray, List.set_cons_zero, List.set_cons_succ]
                clear d3 f3
                refine wpAnyH_done (by kernel_rfl) ?_ _
                have HX5 := HXD
                generalize W.setCell ⟨g, q * 4 + 3, none⟩ (.string (t0.text ++ t.text)) = w5 at *
                have HR5 := hid (HR.out.below HX5.out.bel)
                have hsl : ∀ W, (Instr.slice 26 (.slice (some ⟨b, o, none⟩) n cap) (some (.int .i64 ((i : Int) + 1))) none none).run Try.prog W = .ok (.slice (some (if cap = i + 1 then ⟨b, o, none⟩ else ⟨b, o + (i + 1) * 4, none⟩)) (n - (i + 1)) (cap - (i + 1))) W := fun W => by
                  have h := sl_from b o n cap (i + 1) (by omega) hc W
                  rw [show ((i + 1 : Nat) : Int) = (i : Int) + 1 by omega] at h
                  exact h
                have HRD := hid (tk_from (k := i + 1) HR5.out (cap := cap) (by rw [HN.out]; exact hc))
                generalize (if cap = i + 1 then (⟨b, o, none⟩ : Addr) else ⟨b, o + (i + 1) * 4, none⟩) = AD at *
                obtain ⟨d, hd⟩ : ∃ d, n - (i + 1) = d := ⟨_, rfl⟩
                have HD := hid hd
                rw [hd] at hsl
                have hd50 : d ≤ 50 := by omega
                clear hd HXD D3 Y3 F3
                go_wp2_with (at_builtin; refine wpL_fresh w5 rfl _ _ rfl rfl (some AD) (ts.drop (i + 1)) d (cap - (i + 1)) (by rw [List.length_drop, HN.out]; exact HD.out) rfl HRD.out (by omega) ?_)
                intro a11 c11 w6 ht6 hb6
                have HT6 := hid ht6
                have HX6 := hid (HX5.out.below hb6)
                clear ht6 hb6 HX5 hsl
                have HM6 := hid (RowOf.start ((Below.refl w6.heap.size w6).alloc (Nat.le_refl _) (.cells #[] 50)) (Nat.le_refl _) (heap_alloc_new w6 (.cells #[] 50)))
                go_wp2_with fail
                go_loopw [12, 13] (fun v k wr2 => ∃ j : Nat, k = .int .i64 (j : Int) ∧ j ≤ d ∧ Hid (RowOf w6 wr2 v (segN (fun _ r => if (i : Int) < r.kind then r.kind - ((i : Int) - (a : Int)) - 1 else r.kind) ts (i + 1) j))) (fun _ k _ => d - (intOf k).toNat)
                case atStart => exact ⟨0, rfl, Nat.zero_le _, HM6.out⟩
                case round =>
                  clear HM6
                  obtain ⟨j, rfl, hj, HY⟩ := hrel
                  by_cases hjl : j < d
                  · have hjD : j < (ts.drop (i + 1)).length := by rw [List.length_drop, HN.out, HD.out]; exact hjl
                    have hij : i + 1 + j < ts.length := by have := HN.out; have := HD.out; omega
                    have hjn : (j : Int) < (d : Int) := by omega
                    have HTS := hid (segN_next (f := fun _ r => if (i : Int) < r.kind then r.kind - ((i : Int) - (a : Int)) - 1 else r.kind) (ts := ts) (k := i + 1) (m := j) (t := ts[i + 1 + j]) (seg_of hij))
                    have HLY := hid (show (segN (fun _ r => if (i : Int) < r.kind then r.kind - ((i : Int) - (a : Int)) - 1 else r.kind) ts (i + 1) j).length ≤ 1048576 by rw [segN_len j (by omega)]; omega)
                    have hrb := tree_kind HT.out (seg_of hij)
                    have HZR := hid (HZ.out _ (List.getElem_mem hij))
                    obtain ⟨br, orr, ar, cr, er, hbr, p0, p1, p2, p3, hAr⟩ := (HT6.out.below HY.out.bel) j hjD
                    subst er
                    rw [List.getElem_drop] at p0 p1 p2 p3 hAr
                    have HAR := hid hAr
                    obtain ⟨r, hr⟩ : ∃ r, ts[i + 1 + j] = r := ⟨_, rfl⟩
                    rw [hr] at p0 p1 p2 p3 HAR HZR HTS hrb
                    clear hr hAr hjD hij
                    obtain ⟨nR, hnR⟩ : ∃ nR, r.attrs.length = nR := ⟨_, rfl⟩
                    have HNR := hid hnR
                    rw [hnR] at p2
                    clear hnR
                    have HLR := hid ((Below.refl wr.heap.size wr).alloc (Nat.le_refl _) (.cells #[.int .i64 r.kind, .string r.name, .slice ar nR cr, .string r.text] 50))
                    have CR := hid (fun wx (h : AtRow wx ar r.attrs) => cCopyS ar cr r.attrs wx h HZR.out.2.1)
                    rw [HNR.out] at CR
                    obtain ⟨KR, hKR⟩ : ∃ KR, r.kind = KR := ⟨_, rfl⟩
                    have HKR := hid hKR
                    rw [hKR] at p0 hrb HLR
                    obtain ⟨hr1, hr2⟩ := hrb
                    clear hKR
                    go_wp2_with fail
                    refine (CR.out _ (HAR.out.below HLR.out)).mono ?_
                    rintro e w7 ⟨a7, c7, rfl, ha7, hb7⟩
                    have HBR := hid (Bx.made (c1 := c7) (t := r) (nA := nR) (aa := ar) (ca := cr) (a1 := a7) (w2 := w7) (by rw [HKR.out]; simpa using hb7) (by simpa using ha7))
                    have M7 := hid (blk_below (heap_alloc_new _ _) hb7)
                    obtain ⟨⟨x0, x1, x2, x3⟩, f0, f1, f2, f3⟩ := box4 M7.out
                    clear ha7 hb7 CR HLR p0 p1 p2 p3 hbr M7
                    obtain ⟨w8, hw8⟩ : ∃ w8, w7.setCell ⟨wr.heap.size, 2, none⟩ (.slice a7 nR c7) = w8 := ⟨_, rfl⟩
                    rw [hw8] at HBR
                    obtain ⟨⟨z0, z1, z2, z3⟩, g0, g1, g2, g3⟩ := box4 HBR.out.box
                    rw [HKR.out] at z0
                    by_cases hge : (i : Int) < KR
                    · have HBS := hid (HBR.out.kind (KR - ((i : Int) - (a : Int)) - 1))
                      obtain ⟨w9, hw9⟩ : ∃ w9, w8.setCell ⟨wr.heap.size, 0, none⟩ (.int .i64 (KR - ((i : Int) - (a : Int)) - 1)) = w9 := ⟨_, rfl⟩
                      rw [hw9] at HBS
                      obtain ⟨⟨s0, s1, s2, s3⟩, _⟩ := box4 HBS.out.box
                      have HFN := hid (show shK (KR - ((i : Int) - (a : Int)) - 1) r = shK (if (i : Int) < r.kind then r.kind - ((i : Int) - (a : Int)) - 1 else r.kind) r by rw [HKR.out, if_pos hge])
                      have hgd : decide ((i : Int) < KR) = true := decide_eq_true hge
                      go_wp2_with (at_builtin; refine wpL_bx w6 wr w9 rfl _ _ rfl u12 _ rfl HY.out (shK (KR - ((i : Int) - (a : Int)) - 1) r) a7 c7 nR rfl HNR.out HBS.out HLY.out ?_)
                      intro v10 w10 hr10
                      have HR10 := hid hr10
                      rw [HFN.out, ← HTS.out] at HR10
                      clear hr10 x0 x1 x2 x3 z0 z1 z2 z3 s0 s1 s2 s3 hw8 hw9
                      go_wp2_with fail
                      go_roundw
                      case rel => exact ⟨j + 1, by go_num, by omega, HR10.out⟩
                      case measure => simp [intOf]; omega
                    · have HBS := hid (show Bx wr w8 (shK KR r) nR a7 c7 by rw [show shK KR r = r by rw [← HKR.out]; rfl]; exact HBR.out)
                      have HFN := hid (show shK KR r = shK (if (i : Int) < r.kind then r.kind - ((i : Int) - (a : Int)) - 1 else r.kind) r by rw [HKR.out, if_neg hge])
                      have hgd : decide ((i : Int) < KR) = false := decide_eq_false hge
                      go_wp2_with (at_builtin; refine wpL_bx w6 wr w8 rfl _ _ rfl u12 _ rfl HY.out (shK KR r) a7 c7 nR rfl HNR.out HBS.out HLY.out ?_)
                      intro v10 w10 hr10
                      have HR10 := hid hr10
                      rw [HFN.out, ← HTS.out] at HR10
                      clear hr10 x0 x1 x2 x3 z0 z1 z2 z3 hw8
                      go_wp2_with fail
                      go_roundw
                      case rel => exact ⟨j + 1, by go_num, by omega, HR10.out⟩
                      case measure => simp [intOf]; omega
                  · have hjd : j = d := by omega
                    have HJN := hid (show R = L.set q ⟨t0.kind, t0.name, t0.attrs, t0.text ++ t.text⟩ ++ segN (fun _ r => if (i : Int) < r.kind then r.kind - ((i : Int) - (a : Int)) - 1 else r.kind) ts (i + 1) j by
                      rw [HRJ.out, HLA.out, HQ.out]
                      unfold joinC
                      rw [HN.out, HD.out, hjd])
                    have HLN := hid (show (L.set q ⟨t0.kind, t0.name, t0.attrs, t0.text ++ t.text⟩).length + (segN (fun _ r => if (i : Int) < r.kind then r.kind - ((i : Int) - (a : Int)) - 1 else r.kind) ts (i + 1) j).length ≤ 2097152 by
                      rw [List.length_set, HM.out, segN_len j (by rw [HN.out]; have := HD.out; omega)]
                      omega)
                    have hjdn : ¬ (j : Int) < (d : Int) := by omega
                    clear hjd
                    go_wp2_with (at_builtin; refine wpL_two w w6 _ rfl _ _ rfl (.slice (some ⟨g, 0, none⟩) (q + 1) c8) u12 _ _ rfl rfl HX6.out HY.out HLN.out ?_)
                    intro v11 w11 hr11
                    have HR11 := hid hr11
                    rw [← HJN.out] at HR11
                    clear hr11
                    go_wp2_with fail
                    go_ret
                    exact ⟨_, rfl, HR11.out⟩
    · have hie : i = n := by omega
      subst hie
      have HY := hid (show RowOf w wr u7 R by
        rw [← HRR.out]
        by_cases hEi : E < i
        · rw [cutL_no (HSD.out hEi), HN.out]
          exact HX.out
        · have hEn : E = i := by omega
          have hs : sideB ts a E = false := by
            unfold sideB
            rw [show ts[E]? = none from List.getElem?_eq_none (by rw [HN.out]; omega)]
            split
            · rename_i h; cases h
            · rfl
          rw [cutL_no hs, HN.out]
          exact HX.out)
      clear HX HSD
      go_wp2_with fail
      go_ret
      exact ⟨_, rfl, HY.out⟩

end Go.Proofs.Ytkejmifkjgpdjaa
