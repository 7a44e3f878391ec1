/-  -/
import Derived.Test.YtlpbbkaelbafdaaGreatDoorM9
import Derived.Test.YtlpbbkaelbafdaaGreatDoorM32
import Derived.Test.YtlpbbkaelbafdaaGreatDoorM24
import Derived.Test.YtlpbbkaelbafdaaGreatDoorM30
set_option linter.unusedVariables false
set_option linter.unusedSimpArgs false
namespace Go.Proofs.YtlpbbkaelbafdaaGreatDoor
open Go.RowKit

theorem drop_none {p : Nat -> Bool} : ∀ {l : List Nat}, l.dropWhile p = [] -> ∀ x ∈ l, p x = true
 | [], _, x, hx => absurd hx List.not_mem_nil
 | y :: l, h, x, hx => by
  rw [List.dropWhile_cons] at h
  split at h
  ·rename_i hy
   rcases List.mem_cons.1 hx with rfl | h'
   ·exact hy
   ·exact drop_none h x h'
  ·cases h

section
variable {ts : List Tk} {k : Nat}

theorem branch_at (hk : k < ts.length) {j : Nat} (hj : k + j < endN ts k) {t : Tk} (ht : ts[k + j]? = some t) : (branchL ts k)[j]? = some (shK (if j = 0 then -1 else t.kind - (k : Int)) t) := by
 have h := endN_le hk
 unfold branchL
 rw [segN_get _ (by omega) j (by omega) t ht]
 unfold brF
 by_cases e : j = 0
 ·subst e
  rw [if_pos (Nat.add_zero k), if_pos rfl]
 ·rw [if_neg (by omega), if_neg e]

theorem branch_get (hk : k < ts.length) {j : Nat} (hj : k + j < endN ts k) : ∃ (h1 : k + j < ts.length) (h2 : j < (branchL ts k).length), (branchL ts k)[j] = shK (if j = 0 then -1 else ts[k + j].kind - (k : Int)) ts[k + j] := by
 have h := endN_le hk
 have h1 : k + j < ts.length := by omega
 have h2 : j < (branchL ts k).length := by rw [branchL_len hk]; omega
 refine ⟨h1, h2, ?_⟩
 have e := branch_at hk hj (List.getElem?_eq_getElem h1)
 rw [List.getElem?_eq_getElem h2] at e
 exact Option.some.inj e

theorem branch_par (hk : k < ts.length) {j : Nat} (hj : k + j < endN ts k) : parI (branchL ts k) j = if j = 0 then -1 else parI ts (k + j) - (k : Int) := by
 have h := endN_le hk
 have ht := List.getElem?_eq_getElem (show k + j < ts.length by omega)
 unfold parI
 rw [branch_at hk hj ht, ht]
 rfl

theorem chain_branch (hT : TreeP ts) (hk : k < ts.length) : ∀ j, k + j < endN ts k -> chainF ts (k + j + 1) = (chainF (branchL ts k) (j + 1)).map (fun x => k + x) ++ (chainF ts (k + 1)).tail
 | 0, _ => by
  show chainF ts (k + 1) = (List.map (fun x => k + x) [0]) ++ _
  obtain ⟨r, e⟩ := chain_head ts k
  rw [e]
  rfl
 | j + 1, hj => by
  have hle := endN_le hk
  have ih := chain_branch hT hk j (by omega)
  have hup := hT.up (k + (j + 1)) (by omega)
  have hin : (k : Int) <= parI ts (k + (j + 1)) := endN_in hk (by omega) hj
  rcases hup with h0 | ⟨p, hp, hpp, _⟩
  ·omega
  ·have hpk : k <= p := by omega
   have e1 : chainF ts (k + (j + 1) + 1) = (k + (j + 1)) :: (chainF ts (k + j + 1)).dropWhile (fun (x : Nat) => !decide ((x : Int) = parI ts (k + (j + 1)))) := rfl
   have e2 : chainF (branchL ts k) (j + 1 + 1) = (j + 1) :: (chainF (branchL ts k) (j + 1)).dropWhile (fun (x : Nat) => !decide ((x : Int) = parI (branchL ts k) (j + 1))) := rfl
   have e3 : parI (branchL ts k) (j + 1) = parI ts (k + (j + 1)) - (k : Int) := by rw [branch_par hk hj, if_neg (by omega)]
   have hR : ∀ x ∈ (chainF ts (k + 1)).tail, x < k := by
    intro x hx
    obtain ⟨r, e⟩ := chain_head ts k
    rw [e] at hx
    have hL := (hT.linked k hk).1
    rw [e] at hL
    match r, hL, hx with
    | y :: r', hL, hx =>
     have h1 := hL.2.1
     have h2 := hL.tail.le x hx
     omega
   have hm : p ∈ (chainF (branchL ts k) (j + 1)).map (fun x => k + x) := by
    have hp' : p ∈ chainF ts (k + j + 1) := hp
    rw [ih] at hp'
    rcases List.mem_append.1 hp' with h' | h'
    ·exact h'
    ·have := hR p h'; omega
   rw [e1, e2, ih, List.map_cons, List.cons_append, e3]
   congr 1
   rw [List.dropWhile_append, List.dropWhile_map]
   have ef : ((fun (x : Nat) => !decide ((x : Int) = parI ts (k + (j + 1)))) ∘ fun x => k + x) = fun (x : Nat) => !decide ((x : Int) = parI ts (k + (j + 1)) - (k : Int)) := by
    funext x
    show (!decide (((k + x : Nat) : Int) = _)) = _
    congr 1
    apply decide_eq_decide.2
    omega
   rw [ef, if_neg]
   intro hemp
   obtain ⟨q, hq, e⟩ := List.mem_map.1 hm
   have hne : (chainF (branchL ts k) (j + 1)).dropWhile (fun (x : Nat) => !decide ((x : Int) = parI ts (k + (j + 1)) - (k : Int))) = [] := by
    simpa using hemp
   have hall := drop_none hne q hq
   simp only [Bool.not_eq_true', decide_eq_false_iff_not] at hall
   apply hall
   omega

theorem branch_tree (hT : TreeP ts) (hk : k < ts.length) (he : elN ts k) : TreeP (branchL ts k) := by
 have hle := endN_le hk
 have hlen := branchL_len hk
 have h50 := hT.2.1
 refine ⟨by omega, by omega, by rw [branch_par hk (by omega)]; rfl, ?_, fun j hj => ?_⟩
 ·obtain ⟨h1, h2, e⟩ := branch_get hk (j := 0) (by omega)
  refine ⟨h2, ?_⟩
  rw [e]
  exact he.2
 ·have hje : k + j < endN ts k := by omega
  obtain ⟨h1, h2, e⟩ := branch_get hk hje
  obtain ⟨⟨_, n1⟩, n2, n3, n4⟩ := hT.2.2.2.2 (k + j) h1
  refine ⟨⟨h2, ?_⟩, ?_, ?_, ?_⟩
  ·rw [e]
   exact n1
  ·by_cases h0 : j = 0
   ·exact .inl h0
   ·right
    obtain ⟨i, rfl⟩ : ∃ i, j = i + 1 := ⟨j - 1, by omega⟩
    have hin : (k : Int) <= parI ts (k + (i + 1)) := endN_in hk (by omega) hje
    rcases n2 with n2 | ⟨p, p1, p2, p3⟩
    ·omega
    ·have hc := chain_branch hT hk i (by omega)
     have p1' : p ∈ chainF ts (k + i + 1) := p1
     rw [hc] at p1'
     have hR : ∀ x ∈ (chainF ts (k + 1)).tail, x < k := by
      intro x hx
      obtain ⟨r, e⟩ := chain_head ts k
      rw [e] at hx
      have hL := (hT.linked k hk).1
      rw [e] at hL
      match r, hL, hx with
      | y :: r', hL, hx =>
       have h1 := hL.2.1
       have h2 := hL.tail.le x hx
       omega
     rcases List.mem_append.1 p1' with h' | h'
     ·obtain ⟨q, hq, rfl⟩ := List.mem_map.1 h'
      have hqi : k + q < k + (i + 1) := by
       have := (hT.linked (k + i) (by omega)).2 (k + q) (by rw [hc]; exact List.mem_append.2 (.inl h'))
       omega
      refine ⟨q, hq, by rw [branch_par hk hje, if_neg (by omega)]; omega, ?_⟩
      obtain ⟨g1, g2, g3⟩ := branch_get hk (j := q) (by omega)
      obtain ⟨_, p4⟩ := p3
      exact ⟨g2, by rw [g3]; exact p4⟩
     ·have := hR p h'
      omega
  ·have hc := chain_branch hT hk j hje
   have := congrArg List.length hc
   rw [List.length_append, List.length_map] at this
   omega
  ·rintro ⟨g1, g2, g3, g4, g5⟩
   obtain ⟨i, rfl⟩ : ∃ i, j = i + 1 := ⟨j - 1, by omega⟩
   obtain ⟨m1, m2, m3⟩ := branch_get hk (j := i) (by omega)
   have g4' : ((branchL ts k)[i]).name.size = 0 := g4
   have g5' : ((branchL ts k)[i]).kind = ((branchL ts k)[i + 1]).kind := g5
   rw [m3] at g4' g5'
   rw [e] at g3 g5'
   have hi0 : ¬ i = 0 := by
    intro h0
    subst h0
    obtain ⟨_, he2⟩ := he
    exact he2 g4'
   refine n4 ⟨h1, by omega, g3, ?_, ?_⟩
   ·exact g4'
   ·have h6 : (if i = 0 then -1 else ts[k + i].kind - (k : Int)) = (if i + 1 = 0 then -1 else ts[k + (i + 1)].kind - (k : Int)) := g5'
    rw [if_neg hi0, if_neg (by omega)] at h6
    show ts[k + i].kind = ts[k + (i + 1)].kind
    omega

end

end Go.Proofs.YtlpbbkaelbafdaaGreatDoor

namespace Go.Proofs.YtlpbbkaelbafdaaGreatDoor
open Go.RowKit

theorem linked_uni {ts : List Tk} : ∀ {c d : List Nat} {x : Nat}, Linked ts (x :: c) -> Linked ts (x :: d) -> c = d
 | [], [], x, _, _ => rfl
 | [], z :: d, x, h, k => by
  have h0 : x = 0 := h
  have := k.2.1
  omega
 | y :: c, [], x, h, k => by
  have h0 : x = 0 := k
  have := h.2.1
  omega
 | y :: c, z :: d, x, h, k => by
  have e : y = z := by
   have h1 := h.1
   have k1 := k.1
   omega
  subst e
  rw [linked_uni h.tail k.tail]

theorem out_kind {ts : List Tk} (hT : TreeP ts) {a : Nat} (ha : a < ts.length) {i : Nat} (hi : endN ts a <= i) (hn : i < ts.length) : parI ts i < (a : Int) \/ (endN ts a : Int) <= parI ts i := by
 have hle := endN_le ha
 rcases Nat.lt_or_eq_of_le hi with h' | h'
 ·rcases hT.up i hn with h0 | ⟨p, hpm, ep, _⟩
  ·omega
  ·by_cases h1 : p < a
   ·left; omega
   ·by_cases h2 : endN ts a <= p
    ·right; omega
    ·exfalso
     have hin := in_chain hT ha (p - a) (by omega)
     rw [show a + (p - a) + 1 = p + 1 by omega] at hin
     have hL := hT.linked (i - 1) (by omega)
     rw [show i - 1 + 1 = i by omega] at hL
     obtain ⟨r, e1, e2⟩ := hL.1.drop p hpm
     have hL2 := hT.linked p (by omega)
     obtain ⟨r2, e3⟩ := chain_head ts p
     rw [e3] at hin hL2
     have er := linked_uni e2 hL2.1
     have hmem : a ∈ chainF ts i := by
      refine (List.dropWhile_sublist (fun (j : Nat) => !decide ((j : Int) = (p : Int)))).mem ?_
      rw [e1, er]
      exact hin
     have := out_chain hT ha (i - endN ts a - 1) (by omega)
     rw [show endN ts a + (i - endN ts a - 1) + 1 = i by omega] at this
     exact this hmem
 ·subst h'
  left
  rcases endN_stop ha with h' | h'
  ·omega
  ·exact h'

def cutF (a e : Nat) (t : Tk) : Int := if (e : Int) <= t.kind then t.kind - ((e : Int) - (a : Int)) else t.kind

def outC (ts : List Tk) (a e i : Nat) : List Tk := ts.take (min i a) ++ segN (fun _ t => cutF a e t) ts e (i - e)

theorem outC_zero (ts : List Tk) (a e : Nat) : outC ts a e 0 = [] := by
 unfold outC
 rw [Nat.zero_min, List.take_zero, Nat.zero_sub]
 rfl

theorem outC_skip {ts : List Tk} {a e i : Nat} (h1 : a <= i) (h2 : i < e) : outC ts a e (i + 1) = outC ts a e i := by
 unfold outC
 rw [Nat.min_eq_right h1, Nat.min_eq_right (by omega), show i + 1 - e = 0 by omega, show i - e = 0 by omega]

theorem outC_low {ts : List Tk} {a e i : Nat} (hae : a <= e) (h : i < a) (hi : i < ts.length) : outC ts a e (i + 1) = outC ts a e i ++ [ts[i]] := by
 unfold outC
 rw [Nat.min_eq_left (by omega), Nat.min_eq_left (by omega), show i + 1 - e = 0 by omega, show i - e = 0 by omega]
 show List.take (i + 1) ts ++ [] = (List.take i ts ++ []) ++ [ts[i]]
 rw [List.append_nil, List.append_nil, List.take_succ_eq_append_getElem hi]

theorem outC_high {ts : List Tk} {a e i : Nat} (hae : a <= e) (h : e <= i) (hi : i < ts.length) : outC ts a e (i + 1) = outC ts a e i ++ [shK (cutF a e ts[i]) ts[i]] := by
 unfold outC
 rw [Nat.min_eq_right (by omega), Nat.min_eq_right (by omega), show i + 1 - e = (i - e) + 1 by omega, segN_next (t := ts[i]) (by rw [show e + (i - e) = i by omega]; exact List.getElem?_eq_getElem hi), List.append_assoc]

theorem outC_len {ts : List Tk} {a e i : Nat} (hae : a <= e) (he : e <= ts.length) (hi : i <= ts.length) : (outC ts a e i).length = min i a + (i - e) := by
 unfold outC
 rw [List.length_append, List.length_take]
 by_cases h : e <= i
 ·rw [segN_len _ (by omega)]
  omega
 ·rw [show i - e = 0 by omega]
  show min (min i a) ts.length + 0 = _
  omega

section
variable {ts : List Tk} {a : Nat}

theorem low_kind (hT : TreeP ts) {i : Nat} (hi : i < ts.length) : parI ts i < (i : Int) := by
 rcases hT.up i hi with h0 | ⟨p, hp, ep, _⟩
 ·subst h0
  rw [hT.2.2.1]
  omega
 ·rcases Nat.eq_zero_or_pos i with h0 | h0
  ·subst h0; rw [hT.2.2.1]; omega
  ·have hL := (hT.linked (i - 1) (by omega)).2
   rw [show i - 1 + 1 = i by omega] at hL
   have := hL p hp
   omega

theorem outC_last {e i : Nat} (hae : a <= e) (he : e <= ts.length) (ha1 : 1 <= a) (hi : i < ts.length) (h0 : 0 < i) (hx : i < a \/ e <= i) : ∃ t, (outC ts a e i)[(outC ts a e i).length - 1]? = some t /\ (i < a -> ts[i - 1]? = some t) /\ (i = e -> ts[a - 1]? = some t) /\ (e < i -> ∃ u, ts[i - 1]? = some u /\ t = shK (cutF a e u) u) := by
 have hl := outC_len hae he (show i <= ts.length by omega)
 rcases hx with hx | hx
 ·have hlt : i - 1 < ts.length := by omega
  refine ⟨ts[i - 1], ?_, fun _ => List.getElem?_eq_getElem hlt, fun _ => by omega, fun _ => by omega⟩
  rw [hl, Nat.min_eq_left (by omega), show i - e = 0 by omega, Nat.add_zero]
  unfold outC
  rw [Nat.min_eq_left (by omega), List.getElem?_append_left (by rw [List.length_take]; omega), List.getElem?_take, if_pos (by omega)]
  exact List.getElem?_eq_getElem hlt
 ·rcases Nat.lt_or_eq_of_le hx with h' | h'
  ·have hlt : i - 1 < ts.length := by omega
   refine ⟨shK (cutF a e ts[i - 1]) ts[i - 1], ?_, fun _ => by omega, fun _ => by omega, fun _ => ⟨ts[i - 1], List.getElem?_eq_getElem hlt, rfl⟩⟩
   rw [hl, Nat.min_eq_right (by omega)]
   unfold outC
   have hta : (ts.take (min i a)).length = a := by rw [List.length_take]; omega
   rw [List.getElem?_append_right (by rw [hta]; omega), hta, segN_get _ (by omega) (a + (i - e) - 1 - a) (by omega) ts[i - 1] (by rw [show e + (a + (i - e) - 1 - a) = i - 1 by omega]; exact List.getElem?_eq_getElem hlt)]
  ·subst h'
   have hlt : a - 1 < ts.length := by omega
   refine ⟨ts[a - 1], ?_, fun _ => by omega, fun _ => List.getElem?_eq_getElem hlt, fun _ => by omega⟩
   rw [hl, Nat.min_eq_right (by omega), Nat.sub_self, Nat.add_zero]
   unfold outC
   rw [Nat.min_eq_right (by omega), List.getElem?_append_left (by rw [List.length_take]; omega), List.getElem?_take, if_pos (by omega)]
   exact List.getElem?_eq_getElem hlt

theorem no_join (hT : TreeP ts) (ha : a < ts.length) (ha1 : 1 <= a) {i : Nat} (hi : i < ts.length) (h0 : 0 < i) (hx : i < a \/ endN ts a < i) {t : Tk} (ht : (outC ts a (endN ts a) i)[(outC ts a (endN ts a) i).length - 1]? = some t) : ¬ (ts[i].name.size = 0 /\ t.name.size = 0 /\ t.kind = cutF a (endN ts a) ts[i]) := by
 have hle := endN_le ha
 rintro ⟨h1, h2, h3⟩
 obtain ⟨t', e1, e2, e3, e4⟩ := outC_last (ts := ts) (a := a) (e := endN ts a) (by omega) hle.2 ha1 hi h0 (by omega)
 rw [ht] at e1
 have : t = t' := Option.some.inj e1
 subst this
 have htw := (hT.2.2.2.2 i hi).2.2.2
 rcases hx with hx | hx
 ·have e5 := e2 hx
  rw [List.getElem?_eq_getElem (show i - 1 < ts.length by omega)] at e5
  have e6 := Option.some.inj e5
  refine htw ⟨hi, h0, h1, by rw [e6]; exact h2, ?_⟩
  rw [e6, h3]
  have hk := low_kind hT hi
  rw [parI_at hi] at hk
  unfold cutF
  rw [if_neg (by omega)]
 ·obtain ⟨u, e5, e6⟩ := e4 hx
  rw [List.getElem?_eq_getElem (show i - 1 < ts.length by omega)] at e5
  have e7 := Option.some.inj e5
  subst e6
  have h2' : u.name.size = 0 := h2
  have h3' : cutF a (endN ts a) u = cutF a (endN ts a) ts[i] := h3
  refine htw ⟨hi, h0, h1, by rw [e7]; exact h2', ?_⟩
  rw [e7]
  have k1 := out_kind hT ha (i := i) (by omega) hi
  have k2 := out_kind hT ha (i := i - 1) (by omega) (by omega)
  rw [parI_at hi] at k1
  rw [parI_at (show i - 1 < ts.length by omega), e7] at k2
  unfold cutF at h3'
  split at h3' <;> split at h3' <;> omega

end

def joinC (ts : List Tk) (a e : Nat) (t u : Tk) : List Tk :=
 (ts.take a).set (a - 1) ⟨t.kind, t.name, t.attrs, t.text ++ u.text⟩ ++ segN (fun _ r => if (e : Int) < r.kind then r.kind - ((e : Int) - (a : Int)) - 1 else r.kind) ts (e + 1) (ts.length - (e + 1))

noncomputable def sideB (ts : List Tk) (a e : Nat) : Bool := match ts[a - 1]?, ts[e]? with
 | some t, some u => decide (u.name.size = 0) && (decide (t.name.size = 0) && decide (t.kind = cutF a e u))
 | _, _ => false

noncomputable def cutL (ts : List Tk) (a e : Nat) : List Tk := if sideB ts a e then (match ts[a - 1]?, ts[e]? with | some t, some u => joinC ts a e t u | _, _ => []) else outC ts a e ts.length

theorem cutL_no {ts : List Tk} {a e : Nat} (h : sideB ts a e = false) : cutL ts a e = outC ts a e ts.length := by
 unfold cutL
 rw [if_neg (by rw [h]; exact Bool.false_ne_true)]

theorem cutL_yes {ts : List Tk} {a e : Nat} (h : sideB ts a e = true) {t u : Tk} (ht : ts[a - 1]? = some t) (hu : ts[e]? = some u) : cutL ts a e = joinC ts a e t u := by
 unfold cutL
 rw [if_pos h, ht, hu]

end Go.Proofs.YtlpbbkaelbafdaaGreatDoor

namespace Go.Proofs.YtlpbbkaelbafdaaGreatDoor
open Go.RowKit

theorem shK_same (t : Tk) : shK t.kind t = t := rfl

theorem mvT_shK (k b : Int) (t : Tk) : mvT k b t = shK (if k <= t.kind then t.kind + b else t.kind) t := by
 unfold mvT
 split
 ·rfl
 ·rfl

theorem mvL_zero (ts : List Tk) : mvL 0 0 ts = ts := by
 unfold mvL
 refine (List.map_congr_left (g := id) fun t _ => ?_).trans (List.map_id _)
 rw [mvT_shK]
 split
 ·show shK (t.kind + 0) t = t
  rw [Int.add_zero]
  rfl
 ·rfl

theorem seg_map {f : Nat -> Tk -> Int} {g : Tk -> Tk} {ts : List Tk} {s : Nat} : ∀ m, s + m <= ts.length -> (∀ j (h : j < ts.length), s <= j -> j < s + m -> g ts[j] = shK (f j ts[j]) ts[j]) -> segN f ts s m = ((ts.drop s).take m).map g
 | 0, _, _ => by simp [segN]
 | m + 1, h, hg => by
  have hl : s + m < ts.length := by omega
  have hd : m < (ts.drop s).length := by rw [List.length_drop]; omega
  rw [segN_next (List.getElem?_eq_getElem hl), seg_map m (by omega) (fun j hj h1 h2 => hg j hj h1 (by omega)), take_snocN hd, List.map_append]
  simp only [List.map_cons, List.map_nil, List.getElem_drop]
  rw [hg (s + m) hl (by omega) (by omega)]

theorem mv_seg {k b : Int} {ts : List Tk} {s m : Nat} (h : s + m <= ts.length) : mvL k b ((ts.drop s).take m) = segN (fun _ t => if k <= t.kind then t.kind + b else t.kind) ts s m :=
 (seg_map m h (fun j hj _ _ => mvT_shK k b ts[j])).symm

theorem mvL_sz {k b : Int} {ts : List Tk} {z : Nat} (h : TksSz z ts) : TksSz z (mvL k b ts) := by
 intro t ht
 obtain ⟨u, hu, rfl⟩ := List.mem_map.1 ht
 rw [mvT_shK]
 exact h u hu

theorem sz_drop {ts : List Tk} {z : Nat} (h : TksSz z ts) (n : Nat) : TksSz z (ts.drop n) := fun t ht => h t (List.mem_of_mem_drop ht)

theorem sl_cut (b o L cap f t : Nat) (h : f <= t) (ht : t <= cap) (W : World) : (Instr.slice 28 (.slice (some ⟨b, o, none⟩) L cap) (some (.int .i64 f)) (some (.int .i64 t)) (some (.int .i64 t))).run Tryz.prog W = .ok (.slice (some (if t = f then ⟨b, o, none⟩ else ⟨b, o + f * 4, none⟩)) (t - f) (t - f)) W := by
 have h' : (f : Int) <= t := by omega
 have h2 : (t : Int) <= cap := by omega
 go_simp
 by_cases e : t = f <;> simp [e, Addr.add]

theorem tk_piece {w : World} {b o f t : Nat} {ts : List Tk} (h : TkRow w (some ⟨b, o, none⟩) ts) : TkRow w (some (if t = f then ⟨b, o, none⟩ else ⟨b, o + f * 4, none⟩)) ((ts.drop f).take (t - f)) := by
 split
 ·intro j hj
  rw [List.length_take] at hj
  omega
 ·exact tk_take (tk_drop h f) _

set_option maxHeartbeats 2000000 in
theorem cCopied (a : Option Addr) (cap : Nat) (ts : List Tk) (w : World) (hR : TkRow w a ts) (hn : ts.length <= 1048576) (hz : TksSz 1048576 ts) (hk : ∀ t ∈ ts, t.kind <= 9223372036854775807) :
  Calls Tryz.prog 23 #[.slice a ts.length cap] w fun e w' => ∃ c, e = .returned (.slice (some ⟨w.heap.size, 0, none⟩) ts.length c) /\ RowOf w w' (.slice (some ⟨w.heap.size, 0, none⟩) ts.length c) ts := by
 have C := hid (cMoved a cap ts 0 0 w hR hn hz (fun t ht h0 => by have := hk t ht; omega))
 rw [mvL_zero] at C
 clear hR hz hk
 generalize ts.length = n at *
 go_enter Tryz.func23, Tryz.ntmps23
 go_wp2_with fail
 refine C.out.mono ?_
 rintro e w1 ⟨c, rfl, hr⟩
 have HR := hid hr
 clear hr C
 go_wp2_with fail
 go_ret
 exact ⟨c, rfl, HR.out⟩

def KSm (ts : List Tk) : Prop := ∀ t ∈ ts, -1 <= t.kind /\ t.kind <= 1000

theorem KSm.tree {ts : List Tk} (h : TreeP ts) : KSm ts := by
 intro t ht
 obtain ⟨i, hi, rfl⟩ := List.getElem_of_mem ht
 have := tree_kind h (List.getElem?_eq_getElem hi)
 omega

theorem KSm.take {ts : List Tk} (h : KSm ts) (n : Nat) : KSm (ts.take n) := fun t ht => h t (List.mem_of_mem_take ht)

theorem KSm.drop {ts : List Tk} (h : KSm ts) (n : Nat) : KSm (ts.drop n) := fun t ht => h t (List.mem_of_mem_drop ht)

noncomputable def asIs (ts : List Tk) : List Tk := if treeB ts then ts else []

end Go.Proofs.YtlpbbkaelbafdaaGreatDoor

namespace Go.Proofs.YtlpbbkaelbafdaaGreatDoor
open Go.RowKit

structure KindsV (w : World) (v : Value) (B g b0 b1 b3 b4 : Nat) : Prop where
 ks : Kinds w B g b0 b1 b3 b4
 ng : ¬ v.ownBlock = some g
 n0 : ¬ v.ownBlock = some b0
 n1 : ¬ v.ownBlock = some b1
 n3 : ¬ v.ownBlock = some b3
 n4 : ¬ v.ownBlock = some b4

theorem KindsV.kept {w w' : World} {v v' : Value} {B g b0 b1 b3 b4 : Nat} (h : KindsV w v B g b0 b1 b3 b4) (k : Kept v w v' w') : KindsV w' v' B g b0 b1 b3 b4 :=
 ⟨⟨h.ks.gB, h.ks.B0, h.ks.B1, h.ks.B3, h.ks.B4, (k _ _ h.ks.tab h.ng).1, (k _ _ h.ks.v0 h.n0).1, (k _ _ h.ks.v1 h.n1).1, (k _ _ h.ks.v3 h.n3).1, (k _ _ h.ks.v4 h.n4).1⟩, (k _ _ h.ks.tab h.ng).2, (k _ _ h.ks.v0 h.n0).2, (k _ _ h.ks.v1 h.n1).2, (k _ _ h.ks.v3 h.n3).2, (k _ _ h.ks.v4 h.n4).2⟩

def SayK (w : World) (v : Value) (a : Option Addr) (l : List Say) : Prop := 0 < l.length -> ∃ b cu, a = some ⟨b, 0, none⟩ /\ w.heap[b]? = some (.cells cu 54 (0, 0)) /\ (¬ v.ownBlock = some b) /\ ∀ j (h : j < l.length), ∃ aj cj, cu[j * 2]? = some (.slice aj l[j].attrs.length cj) /\ cu[j * 2 + 1]? = some (.string l[j].text) /\ KAts w v aj l[j].attrs

theorem SayK.kept {w w' : World} {v v' : Value} {a : Option Addr} {l : List Say} (h : SayK w v a l) (k : Kept v w v' w') : SayK w' v' a l := fun hl => by
 obtain ⟨b, cu, e1, e2, e3, e4⟩ := h hl
 refine ⟨b, cu, e1, (k _ _ e2 e3).1, (k _ _ e2 e3).2, fun j hj => ?_⟩
 obtain ⟨aj, cj, f1, f2, f3⟩ := e4 j hj
 exact ⟨aj, cj, f1, f2, f3.kept k⟩

theorem SayK.of {w w0 : World} {B : Nat} {v : Value} {L : List Tk} {a : Option Addr} {l : List Say} (hr : KRow B w0 v L) (h : SayR w w0.heap.size a l) : SayK w v a l := fun hl => by
 obtain ⟨b, cu, e1, e0, e2, e3⟩ := h hl
 refine ⟨b, cu, e1, e2, hr.other (.inl e0), fun j hj => ?_⟩
 obtain ⟨aj, cj, f1, f2, f3⟩ := e3 j hj
 refine ⟨aj, cj, f1, f2, fun hl => ?_⟩
 obtain ⟨g, o, cu', k1, k2, k3, k4⟩ := f3 hl
 exact ⟨g, o, cu', k1, k3, k4, hr.other (.inl k2)⟩

theorem cName_kid : ∀ k, k < 6 -> cName (localN k) = kidN k
 | 0, _ => rfl
 | 1, _ => rfl
 | 2, _ => rfl
 | 3, _ => rfl
 | 4, _ => rfl
 | 5, _ => rfl

theorem localN_sz : ∀ k, (localN k).size <= 1000
 | 0 => by decide
 | 1 => by decide
 | 2 => by decide
 | 3 => by decide
 | 4 => by decide
 | k + 5 => by show (4 : Nat) <= 1000; decide

theorem krow_head {B : Nat} {W : World} {c : Cm} {g g2 : Nat} (hb : B <= W.heap.size) (hg : B <= g) (hg2 : B <= g2) (hne : ¬ g2 = g) (h1 : W.heap[g]? = some (.cells #[.string nsCS, .string claimS, .string idS, .string c.id] 40 (0, 0)))
  (h2 : W.heap[g2]? = some (.cells #[.int .i64 (-1), .string cClaimS, .slice (some ⟨g, 0, none⟩) 2 2, .string nE] 42 (0, 0))) : KRow B W (.slice (some ⟨g2, 0, none⟩) 1 1) [headT c] :=
 ⟨⟨[⟨headT c, some ⟨g, 0, none⟩, 2⟩], (Nd.Row.one (e := ⟨headT c, some ⟨g, 0, none⟩, 2⟩) hg2 h2 (own_of hg h1 (cells_two _ _ _ _)) (fun g' o h e => by cases e; exact fun e2 => hne e2.symm)).own, rfl, fun e he => by
  rw [List.mem_singleton] at he
  subst he
  exact kats_of h1 (cells_two _ _ _ _) (fun e2 => hne (Option.some.inj e2))⟩, hb⟩

theorem addN_all {P : Tk -> Prop} {L : List Tk} {name : ByteArray} {x : Say} (h : ∀ t ∈ L, P t) (h1 : P ⟨0, name, x.attrs, nE⟩) (h2 : P ⟨(L.length : Int), nE, [], x.text⟩) : ∀ t ∈ addN L name x, P t := by
 unfold addN
 split
 ·intro t ht
  rcases List.mem_append.1 ht with h' | h'
  ·exact h t h'
  ·rw [List.mem_singleton] at h'
   subst h'
   exact h1
 ·intro t ht
  rcases List.mem_append.1 ht with h' | h'
  ·rcases List.mem_append.1 h' with h' | h'
   ·exact h t h'
   ·rw [List.mem_singleton] at h'
    subst h'
    exact h1
  ·rw [List.mem_singleton] at h'
   subst h'
   exact h2

def TkOk (m : Nat) (t : Tk) : Prop := TkSz m t /\ t.kind <= (m : Int)

theorem addAll_all {m : Nat} {name : ByteArray} (hn : name.size <= m) : ∀ (l : List Say) (L : List Tk), (∀ t ∈ L, TkOk m t) -> L.length + 2 * l.length <= m -> (∀ x ∈ l, x.text.size <= m /\ x.attrs.length <= m /\ AtSz m x.attrs) -> ∀ t ∈ addAll L name l, TkOk m t
 | [], L, h, _, _ => h
 | x :: l, L, h, hl, hx => by
  have hq := addN_len L name x
  have hx1 := hx x (by simp)
  show ∀ t ∈ addAll (addN L name x) name l, TkOk m t
  refine addAll_all hn l _ (addN_all h ⟨⟨hn, hx1.2.1, hx1.2.2, Nat.zero_le _⟩, by show (0 : Int) <= m; omega⟩ ⟨⟨Nat.zero_le _, Nat.zero_le _, fun y hy => absurd hy List.not_mem_nil, hx1.1⟩, ?_⟩) ?_ (fun y hy => hx y (by simp [hy]))
  ·show (L.length : Int) <= m
   simp only [List.length_cons] at hl
   omega
  ·simp only [List.length_cons] at hl
   omega

theorem kidN_sz : ∀ k, (kidN k).size <= 1048576
 | 0 => by decide
 | 1 => by decide
 | 2 => by decide
 | 3 => by decide
 | 4 => by decide
 | k + 5 => by show (6 : Nat) <= 1048576; decide

theorem txtL_all {s : ByteArray} (h : s.size <= 1048576) : ∀ x ∈ txtL s, x.text.size <= 1048576 /\ x.attrs.length <= 1048576 /\ AtSz 1048576 x.attrs := by
 unfold txtL
 split
 ·exact fun x hx => absurd hx List.not_mem_nil
 ·intro x hx
  rw [List.mem_singleton] at hx
  subst hx
  exact ⟨h, Nat.zero_le _, fun y hy => absurd hy List.not_mem_nil⟩

theorem saysL_all {c : Cm} (hz : CmSz 1048576 c) {u v : ByteArray} (hu : u.size <= 1048576) (hv : v.size <= 1048576) (k : Nat) : ∀ x ∈ saysL c u v k, x.text.size <= 1048576 /\ x.attrs.length <= 1048576 /\ AtSz 1048576 x.attrs := by
 obtain ⟨z1, z2, z3, z4, z5, z6, z7⟩ := hz
 match k with
 | 0 => exact txtL_all z2
 | 1 => exact txtL_all z3
 | 2 =>
  intro x hx
  have hx' : x = ⟨[⟨fromS, u⟩, ⟨toS, v⟩], nE⟩ := List.mem_singleton.1 hx
  subst hx'
  refine ⟨Nat.zero_le _, by show (2 : Nat) <= _; decide, fun y hy => ?_⟩
  have hy' : y = ⟨fromS, u⟩ \/ y = ⟨toS, v⟩ := by simpa using hy
  rcases hy' with rfl | rfl
  ·exact ⟨by show (4 : Nat) <= _; decide, hu⟩
  ·exact ⟨by show (2 : Nat) <= _; decide, hv⟩
 | 3 => exact txtL_all z4
 | 4 => exact txtL_all z5
 | k + 5 =>
  intro x hx
  have hx' : x ∈ factL c.facts := hx
  unfold factL at hx'
  obtain ⟨f, hf, rfl⟩ := List.mem_map.1 hx'
  refine ⟨(z7 f hf).2, by show (1 : Nat) <= _; decide, fun y hy => ?_⟩
  have hy' : y = ⟨nameS, f.name⟩ := by simpa using hy
  subst hy'
  exact ⟨by show (4 : Nat) <= _; decide, (z7 f hf).1⟩

theorem treeTo_all {c : Cm} (hz : CmSz 1048576 c) (h4 : c.facts.length <= 1000) {u v : ByteArray} (hu : u.size <= 1048576) (hv : v.size <= 1048576) : ∀ k, k <= 6 -> ∀ t ∈ treeTo c u v k, TkOk 1048576 t
 | 0, _ => fun t ht => by
  have ht' : t = headT c := List.mem_singleton.1 ht
  subst ht'
  refine ⟨⟨by show (7 : Nat) <= _; decide, by show (2 : Nat) <= _; decide, fun y hy => ?_, Nat.zero_le _⟩, by show (-1 : Int) <= _; omega⟩
  have hy' : y = ⟨nsCS, claimS⟩ \/ y = ⟨idS, c.id⟩ := by simpa [headT] using hy
  rcases hy' with rfl | rfl
  ·exact ⟨by show (4 : Nat) <= _; decide, by show (5 : Nat) <= _; decide⟩
  ·exact ⟨by show (2 : Nat) <= _; decide, hz.1⟩
 | k + 1, hk => by
  have h1 := treeTo_len c u v h4 k
  have h2 := saysL_len c u v k h4
  exact addAll_all (kidN_sz k) _ _ (treeTo_all hz h4 hu hv k (by omega)) (by omega) (saysL_all hz hu hv k)

end Go.Proofs.YtlpbbkaelbafdaaGreatDoor
