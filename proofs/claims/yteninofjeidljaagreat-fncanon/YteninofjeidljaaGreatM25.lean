/- A branch is a tree by itself (mathematics alone). What a branch says is what stood there (mathematics alone). What was put in is there (mathematics alone). A branch that means the same elsewhere is written the same there (mathematics alone). -/
import Derived.Test.YteninofjeidljaaGreatM24
import Derived.Test.YteninofjeidljaaGreatM15
import Derived.Test.YteninofjeidljaaGreatM22
namespace Go.Proofs.YteninofjeidljaaGreat

open Go.RowKit

set_option linter.unusedVariables false

theorem drop_none {p : Nat → Bool} : ∀ {l : List Nat}, l.dropWhile p = [] → ∀ x ∈ l, p x = true
  | [], _, x, hx => absurd hx List.not_mem_nil
  | y :: l, h, x, hx => by
    rw [List.dropWhile_cons] at h
    split at h
    · rename_i hy
      rcases List.mem_cons.1 hx with rfl | h'
      · exact hy
      · exact drop_none h x h'
    · cases h

section

variable {ts : List Tk} {k : Nat}

theorem branch_at (hk : k < ts.length) {j : Nat} (hj : k + j < endN ts k) {t : Tk} (ht : ts[k + j]? = some t) : (branchL ts k)[j]? = some (shK (if j = 0 then -1 else t.kind - (k : Int)) t) := by
  have h := endN_le hk
  unfold branchL
  rw [segN_get _ (by omega) j (by omega) t ht]
  unfold brF
  by_cases e : j = 0
  · subst e
    rw [if_pos (Nat.add_zero k), if_pos rfl]
  · rw [if_neg (by omega), if_neg e]

theorem branch_get (hk : k < ts.length) {j : Nat} (hj : k + j < endN ts k) : ∃ (h1 : k + j < ts.length) (h2 : j < (branchL ts k).length), (branchL ts k)[j] = shK (if j = 0 then -1 else ts[k + j].kind - (k : Int)) ts[k + j] := by
  have h := endN_le hk
  have h1 : k + j < ts.length := by omega
  have h2 : j < (branchL ts k).length := by rw [branchL_len hk]; omega
  refine ⟨h1, h2, ?_⟩
  have e := branch_at hk hj (List.getElem?_eq_getElem h1)
  rw [List.getElem?_eq_getElem h2] at e
  exact Option.some.inj e

theorem branch_par (hk : k < ts.length) {j : Nat} (hj : k + j < endN ts k) : parI (branchL ts k) j = if j = 0 then -1 else parI ts (k + j) - (k : Int) := by
  have h := endN_le hk
  have ht := List.getElem?_eq_getElem (show k + j < ts.length by omega)
  unfold parI
  rw [branch_at hk hj ht, ht]
  rfl

/-- What is open within, and what is open around. -/
theorem chain_branch (hT : TreeP ts) (hk : k < ts.length) : ∀ j, k + j < endN ts k → chainF ts (k + j + 1) = (chainF (branchL ts k) (j + 1)).map (fun x => k + x) ++ (chainF ts (k + 1)).tail
  | 0, _ => by
    show chainF ts (k + 1) = (List.map (fun x => k + x) [0]) ++ _
    obtain ⟨r, e⟩ := chain_head ts k
    rw [e]
    rfl
  | j + 1, hj => by
    have hle := endN_le hk
    have ih := chain_branch hT hk j (by omega)
    have hup := hT.up (k + (j + 1)) (by omega)
    have hin : (k : Int) ≤ parI ts (k + (j + 1)) := endN_in hk (by omega) hj
    rcases hup with h0 | ⟨p, hp, hpp, _⟩
    · omega
    · have hpk : k ≤ p := by omega
      have e1 : chainF ts (k + (j + 1) + 1) = (k + (j + 1)) :: (chainF ts (k + j + 1)).dropWhile (fun (x : Nat) => !decide ((x : Int) = parI ts (k + (j + 1)))) := rfl
      have e2 : chainF (branchL ts k) (j + 1 + 1) = (j + 1) :: (chainF (branchL ts k) (j + 1)).dropWhile (fun (x : Nat) => !decide ((x : Int) = parI (branchL ts k) (j + 1))) := rfl
      have e3 : parI (branchL ts k) (j + 1) = parI ts (k + (j + 1)) - (k : Int) := by rw [branch_par hk hj, if_neg (by omega)]
      have hR : ∀ x ∈ (chainF ts (k + 1)).tail, x < k := by
        intro x hx
        obtain ⟨r, e⟩ := chain_head ts k
        rw [e] at hx
        have hL := (hT.linked k hk).1
        rw [e] at hL
        match r, hL, hx with
        | y :: r', hL, hx =>
          have h1 := hL.2.1
          have h2 := hL.tail.le x hx
          omega
      have hm : p ∈ (chainF (branchL ts k) (j + 1)).map (fun x => k + x) := by
        have hp' : p ∈ chainF ts (k + j + 1) := hp
        rw [ih] at hp'
        rcases List.mem_append.1 hp' with h' | h'
        · exact h'
        · have := hR p h'; omega
      rw [e1, e2, ih, List.map_cons, List.cons_append, e3]
      congr 1
      rw [List.dropWhile_append, List.dropWhile_map]
      have ef : ((fun (x : Nat) => !decide ((x : Int) = parI ts (k + (j + 1)))) ∘ fun x => k + x) = fun (x : Nat) => !decide ((x : Int) = parI ts (k + (j + 1)) - (k : Int)) := by
        funext x
        show (!decide (((k + x : Nat) : Int) = _)) = _
        congr 1
        apply decide_eq_decide.2
        omega
      rw [ef, if_neg]
      intro hemp
      obtain ⟨q, hq, e⟩ := List.mem_map.1 hm
      have hne : (chainF (branchL ts k) (j + 1)).dropWhile (fun (x : Nat) => !decide ((x : Int) = parI ts (k + (j + 1)) - (k : Int))) = [] := by
        simpa using hemp
      have hall := drop_none hne q hq
      simp only [Bool.not_eq_true', decide_eq_false_iff_not] at hall
      apply hall
      omega

/-- A branch is a tree by itself. -/
theorem branch_tree (hT : TreeP ts) (hk : k < ts.length) (he : elN ts k) : TreeP (branchL ts k) := by
  have hle := endN_le hk
  have hlen := branchL_len hk
  have h50 := hT.2.1
  refine ⟨by omega, by omega, by rw [branch_par hk (by omega)]; rfl, ?_, fun j hj => ?_⟩
  · obtain ⟨h1, h2, e⟩ := branch_get hk (j := 0) (by omega)
    refine ⟨h2, ?_⟩
    rw [e]
    exact he.2
  · have hje : k + j < endN ts k := by omega
    obtain ⟨h1, h2, e⟩ := branch_get hk hje
    obtain ⟨⟨_, n1⟩, n2, n3, n4⟩ := hT.2.2.2.2 (k + j) h1
    refine ⟨⟨h2, ?_⟩, ?_, ?_, ?_⟩
    · rw [e]
      exact n1
    · by_cases h0 : j = 0
      · exact .inl h0
      · right
        obtain ⟨i, rfl⟩ : ∃ i, j = i + 1 := ⟨j - 1, by omega⟩
        have hin : (k : Int) ≤ parI ts (k + (i + 1)) := endN_in hk (by omega) hje
        rcases n2 with n2 | ⟨p, p1, p2, p3⟩
        · omega
        · have hc := chain_branch hT hk i (by omega)
          have p1' : p ∈ chainF ts (k + i + 1) := p1
          rw [hc] at p1'
          have hR : ∀ x ∈ (chainF ts (k + 1)).tail, x < k := by
            intro x hx
            obtain ⟨r, e⟩ := chain_head ts k
            rw [e] at hx
            have hL := (hT.linked k hk).1
            rw [e] at hL
            match r, hL, hx with
            | y :: r', hL, hx =>
              have h1 := hL.2.1
              have h2 := hL.tail.le x hx
              omega
          rcases List.mem_append.1 p1' with h' | h'
          · obtain ⟨q, hq, rfl⟩ := List.mem_map.1 h'
            have hqi : k + q < k + (i + 1) := by
              have := (hT.linked (k + i) (by omega)).2 (k + q) (by rw [hc]; exact List.mem_append.2 (.inl h'))
              omega
            refine ⟨q, hq, by rw [branch_par hk hje, if_neg (by omega)]; omega, ?_⟩
            obtain ⟨g1, g2, g3⟩ := branch_get hk (j := q) (by omega)
            obtain ⟨_, p4⟩ := p3
            exact ⟨g2, by rw [g3]; exact p4⟩
          · have := hR p h'
            omega
    · have hc := chain_branch hT hk j hje
      have := congrArg List.length hc
      rw [List.length_append, List.length_map] at this
      omega
    · rintro ⟨g1, g2, g3, g4, g5⟩
      obtain ⟨i, rfl⟩ : ∃ i, j = i + 1 := ⟨j - 1, by omega⟩
      obtain ⟨m1, m2, m3⟩ := branch_get hk (j := i) (by omega)
      have g4' : ((branchL ts k)[i]).name.size = 0 := g4
      have g5' : ((branchL ts k)[i]).kind = ((branchL ts k)[i + 1]).kind := g5
      rw [m3] at g4' g5'
      rw [e] at g3 g5'
      have hi0 : ¬ i = 0 := by
        intro h0
        subst h0
        obtain ⟨_, he2⟩ := he
        exact he2 g4'
      refine n4 ⟨h1, by omega, g3, ?_, ?_⟩
      · exact g4'
      · have h6 : (if i = 0 then -1 else ts[k + i].kind - (k : Int)) = (if i + 1 = 0 then -1 else ts[k + (i + 1)].kind - (k : Int)) := g5'
        rw [if_neg hi0, if_neg (by omega)] at h6
        show ts[k + i].kind = ts[k + (i + 1)].kind
        omega

end

end Go.Proofs.YteninofjeidljaaGreat

namespace Go.Proofs.YteninofjeidljaaGreat

open Go.RowKit

set_option linter.unusedVariables false

section

variable {ts : List Tk} {k : Nat}

end

end Go.Proofs.YteninofjeidljaaGreat

namespace Go.Proofs.YteninofjeidljaaGreat

open Go.RowKit

set_option linter.unusedVariables false

section

variable {ts br : List Tk} {e : Nat} {par : Int}

end

end Go.Proofs.YteninofjeidljaaGreat

namespace Go.Proofs.YteninofjeidljaaGreat

open Go.RowKit

set_option linter.unusedVariables false

section

variable {ts : List Tk} {k : Nat}

theorem kids_inner (hT : TreeP ts) (hk : k < ts.length) {j : Nat} (hj : k + j < endN ts k) : kidsN ts (k + j) = (kidsN (branchL ts k) j).map (fun x => k + x) := by
  have hle := endN_le hk
  have hlen := branchL_len hk
  have hkj : k + j < ts.length := by omega
  have hend : endN ts (k + j) ≤ endN ts k := by
    rcases Nat.eq_zero_or_pos j with h | h
    · subst h; exact Nat.le_refl _
    · exact (kid_end hk (show k < k + j by omega) hj).1
  rw [kidsN_from hkj, kidsN_from (ts := branchL ts k) (k := j) (by omega), kidsFrom_split (b := endN ts k) (by omega) hle.2, kidsFrom_none (fun i h1 h2 => no_kid hT hkj (by omega) h2), List.append_nil, hlen]
  unfold kidsFrom
  have e : List.range' (k + j + 1) (endN ts k - (k + j + 1)) = (List.range' (j + 1) (endN ts k - k - (j + 1))).map (fun x => k + x) := by
    rw [List.map_add_range', show endN ts k - k - (j + 1) = endN ts k - (k + j + 1) by omega]
    rfl
  rw [e, List.filter_map]
  congr 1
  refine List.filter_congr fun i hi => ?_
  rw [List.mem_range'_1] at hi
  show decide (parI ts (k + i) = ((k + j : Nat) : Int)) = decide (parI (branchL ts k) i = ((j : Nat) : Int))
  rw [branch_par hk (by omega), if_neg (by omega)]
  apply decide_eq_decide.2
  omega

end

theorem tw_congr {α : Type} {p q : α → Bool} : ∀ {l : List α}, (∀ x ∈ l, p x = q x) → l.takeWhile p = l.takeWhile q
  | [], _ => rfl
  | x :: l, h => by
    rw [List.takeWhile_cons, List.takeWhile_cons, h x (by simp), tw_congr (fun y hy => h y (by simp [hy]))]

theorem sort_congr {α : Type} {lt lt' : α → α → Bool} (l : List α) (h : ∀ x ∈ l, ∀ y ∈ l, lt x y = lt' x y) : sortG lt l = sortG lt' l := by
  unfold sortG
  have key : ∀ (l m : List α), (∀ x ∈ l, ∀ y, y ∈ m ∨ y ∈ l → lt x y = lt' x y) → l.foldl (insG lt) m = l.foldl (insG lt') m := by
    intro l
    induction l with
    | nil => intro m _; rfl
    | cons x l ih =>
      intro m hm
      rw [List.foldl_cons, List.foldl_cons]
      have e : insG lt m x = insG lt' m x := by
        unfold insG
        rw [tw_congr (p := fun y => !lt x y) (q := fun y => !lt' x y) (fun y hy => by show (!lt x y) = !lt' x y; rw [hm x (by simp) y (.inl hy)])]
      rw [e]
      refine ih _ fun z hz y hy => hm z (by simp [hz]) y ?_
      rcases hy with hy | hy
      · rcases ins_mem.1 hy with rfl | hy
        · exact .inr (by simp)
        · exact .inl hy
      · exact .inr (by simp [hy])
  exact key l [] fun x hx y hy => h x hx y (hy.resolve_left List.not_mem_nil)

theorem oth_congr {ts us : List Tk} {k m : Nat} {l : List At} (h : ∀ x ∈ l, cntB x = true → mnF ts k (preS x.name) = mnF us m (preS x.name)) : othL ts k l = othL us m l := by
  rw [oth_sort, oth_sort]
  have hm : ∀ x ∈ l.filter nodeclB, atMean ts k x = atMean us m x := fun x hx => by
    obtain ⟨h1, h2⟩ := List.mem_filter.1 hx
    unfold atMean
    by_cases h0 : (preS x.name).size = 0
    · rw [if_pos h0, if_pos h0]
    · rw [if_neg h0, if_neg h0]
      exact h x h1 (by unfold cntB; unfold nodeclB at h2; rw [h2, decide_eq_false h0]; rfl)
  refine sort_congr _ fun x hx y hy => ?_
  unfold aheadF
  rw [hm x hx, hm y hy]

theorem dcl_congr {ts us : List Tk} {k m : Nat} : ∀ (ps : List ByteArray) (sd : List At) (s : ByteArray), (∀ p ∈ ps, mnF ts k p = mnF us m p) → dclL ts k sd s ps = dclL us m sd s ps
  | [], sd, s, _ => rfl
  | p :: ps, sd, s, h => by
    have e1 : dclL ts k sd s (p :: ps) = dclL ts k (dclF ts k (sd, s) p).1 (dclF ts k (sd, s) p).2 ps := rfl
    have e2 : dclL us m sd s (p :: ps) = dclL us m (dclF us m (sd, s) p).1 (dclF us m (sd, s) p).2 ps := rfl
    have e3 : dclF ts k (sd, s) p = dclF us m (sd, s) p := by unfold dclF; rw [h p (by simp)]
    rw [e1, e2, e3]
    exact dcl_congr ps _ _ (fun q hq => h q (by simp [hq]))

/-- Two nodes that look alike, and whose prefixes mean the same. -/
structure AlikeN (ts us : List Tk) (i i' : Nat) : Prop where
  name : (nodeAt us i').name = (nodeAt ts i).name
  text : (nodeAt us i').text = (nodeAt ts i).text
  pre : ¬ (nodeAt ts i).name.size = 0 → preL7 (nodeAt us i').name (nodeAt us i').attrs = preL7 (nodeAt ts i).name (nodeAt ts i).attrs
  oth : ¬ (nodeAt ts i).name.size = 0 → othL us i' (nodeAt us i').attrs = othL ts i (nodeAt ts i).attrs
  mean : ¬ (nodeAt ts i).name.size = 0 → ∀ p ∈ preL7 (nodeAt ts i).name (nodeAt ts i).attrs, mnF ts i p = mnF us i' p

/-- What looks alike is written alike. -/
theorem canon_alike {ts us : List Tk} {but but' : Int} (φ : Nat → Nat) (D : Nat → Prop) (hA : ∀ i, D i → AlikeN ts us i (φ i)) (hb : ∀ i, D i → ¬ (i : Int) = but ∧ ¬ (φ i : Int) = but')
    (hK : ∀ i, D i → ∃ K, (kidsN ts i).filter (notB but) = K ∧ (∀ j ∈ K, D j) ∧ (kidsN us (φ i)).filter (notB but') = K.map φ) :
    ∀ f i sd, D i → canonN ts but f i sd = canonN us but' f (φ i) sd
  | 0, i, sd, _ => rfl
  | f + 1, i, sd, hi => by
    have a := hA i hi
    obtain ⟨b1, b2⟩ := hb i hi
    by_cases hn : (nodeAt ts i).name.size = 0
    · rw [canonN_text rfl b1 hn, canonN_text rfl b2 (by rw [a.name]; exact hn), a.text]
    · rw [canonN_el rfl b1 hn, canonN_el rfl b2 (by rw [a.name]; exact hn)]
      have ed := dcl_congr (ts := ts) (us := us) (k := i) (m := φ i) (preL7 (nodeAt ts i).name (nodeAt ts i).attrs) sd ((⟨#[60]⟩ : ByteArray) ++ (nodeAt ts i).name) (a.mean hn)
      have eh : headS us (φ i) sd (nodeAt us (φ i)) = headS ts i sd (nodeAt ts i) := by
        unfold headS
        rw [a.oth hn, a.pre hn, a.name, ← ed]
      have es : saidL us (φ i) sd (nodeAt us (φ i)) = saidL ts i sd (nodeAt ts i) := by
        unfold saidL
        rw [a.pre hn, a.name, ← ed]
      obtain ⟨K, k1, k2, k3⟩ := hK i hi
      have zero : ∀ (tt : List Tk) (b : Int) (sd : List At) (j : Nat), (j : Int) = b → canonN tt b f j sd = ⟨#[]⟩ := fun tt b sd j hj => by
        cases f with
        | zero => rfl
        | succ f => exact canonN_but hj
      rw [fold_cat _ but _ _ (zero ts but _), fold_cat _ but' _ _ (zero us but' _), eh, es, a.name, k1, k3, List.map_map]
      congr 5
      refine List.map_congr_left fun j hj => ?_
      exact canon_alike φ D hA hb hK f j _ (k2 j hj)

/-- More room changes nothing. -/
theorem canon_fuel {ts : List Tk} {but : Int} : ∀ (f f' k : Nat) (sd : List At), k < ts.length → ts.length ≤ f + k → ts.length ≤ f' + k → canonN ts but f k sd = canonN ts but f' k sd
  | 0, f', k, sd, h1, h2, _ => by omega
  | f + 1, 0, k, sd, h1, _, h3 => by omega
  | f + 1, f' + 1, k, sd, h1, h2, h3 => by
    by_cases hb : (k : Int) = but
    · rw [canonN_but hb, canonN_but hb]
    · by_cases hn : (nodeAt ts k).name.size = 0
      · rw [canonN_text rfl hb hn, canonN_text rfl hb hn]
      · rw [canonN_el rfl hb hn, canonN_el rfl hb hn]
        congr 3
        have key : ∀ (l : List Nat) (s : ByteArray), (∀ j ∈ l, j < ts.length ∧ k < j) → l.foldl (fun s j => s ++ canonN ts but f j (saidL ts k sd (nodeAt ts k))) s = l.foldl (fun s j => s ++ canonN ts but f' j (saidL ts k sd (nodeAt ts k))) s := by
          intro l
          induction l with
          | nil => intro s _; rfl
          | cons j l ih =>
            intro s hl
            have := hl j (by simp)
            rw [List.foldl_cons, List.foldl_cons, canon_fuel f f' j _ this.1 (by omega) (by omega), ih _ (fun i hi => hl i (by simp [hi]))]
        refine key _ _ fun j hj => ⟨kidsN_lt hj, ?_⟩
        have h2 := (List.mem_filter.1 hj).2
        simp only [Bool.and_eq_true, decide_eq_true_eq] at h2
        exact h2.1

theorem branch_node {ts : List Tk} {k : Nat} (hk : k < ts.length) {j : Nat} (hj : k + j < endN ts k) : (nodeAt ts (k + j)).name = (nodeAt (branchL ts k) j).name ∧ (nodeAt ts (k + j)).attrs = (nodeAt (branchL ts k) j).attrs ∧ (nodeAt ts (k + j)).text = (nodeAt (branchL ts k) j).text := by
  obtain ⟨h1, h2, e⟩ := branch_get hk hj
  rw [nodeAt_at h1, nodeAt_at h2, e]
  exact ⟨rfl, rfl, rfl⟩

end Go.Proofs.YteninofjeidljaaGreat
