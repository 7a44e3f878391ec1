/- In whatever order attrs stand, and with a declaration that nobody needs, it is written the same (mathematics alone). The tree of what is written in the one way is written the same (mathematics alone). What is written in the one way, read again, is written the same (mathematics alone). A tree without the nodes from a up to h (mathematics alone). -/
import Derived.Test.YteninofjeidljaaGreatM25
import Derived.Test.YteninofjeidljaaGreatM27
import Derived.Test.YteninofjeidljaaGreatM23
namespace Go.Proofs.YteninofjeidljaaGreat

open Go.RowKit

set_option linter.unusedVariables false

theorem ins_perm {α : Type} (lt : α → α → Bool) (l : List α) (x : α) : (insG lt l x).Perm (x :: l) := by
  obtain ⟨P, Q, rfl, e, _, _⟩ := ins_parts lt l x
  rw [e]
  exact List.perm_middle

theorem sort_perm {α : Type} (lt : α → α → Bool) (l : List α) : (sortG lt l).Perm l := by
  unfold sortG
  have key : ∀ (l m : List α), (l.foldl (insG lt) m).Perm (m ++ l) := by
    intro l
    induction l with
    | nil => intro m; rw [List.append_nil]; exact List.Perm.refl _
    | cons x l ih =>
      intro m
      rw [List.foldl_cons]
      refine (ih _).trans ?_
      refine ((ins_perm lt m x).append_right l).trans ?_
      exact List.perm_middle.symm
  exact key l []

section

variable {ts us : List Tk}

end

end Go.Proofs.YteninofjeidljaaGreat

namespace Go.Proofs.YteninofjeidljaaGreat

open Go.RowKit

set_option linter.unusedVariables false

section

variable {ts : List Tk} {k : Nat}

/-- The attrs from an element of it outwards. -/
theorem out_step (hC : TreeP (treeC ts k)) {j : Nat} (hj : j < (branchL ts k).length) (hn : ¬ (nodeAt ts (k + j)).name.size = 0) :
    (j = 0 ∧ outAts (treeC ts k) j = attC ts (k + j) (sdC ts k j) ++ []) ∨ ∃ p : Nat, p < j ∧ parI (branchL ts k) j = (p : Int) ∧ outAts (treeC ts k) j = attC ts (k + j) (sdC ts k j) ++ outAts (treeC ts k) p := by
  have hjC : j < (treeC ts k).length := by rw [treeC_len]; exact hj
  have ea : (match (treeC ts k)[j]? with | some t => t.attrs | none => []) = attC ts (k + j) (sdC ts k j) := by
    rw [treeC_get hj]
    unfold nodeC
    simp only [hn, if_false]
  by_cases h0 : j = 0
  · subst h0
    refine .inl ⟨rfl, ?_⟩
    unfold outAts upAts
    show List.flatMap _ [0] = _
    rw [List.flatMap_cons, List.flatMap_nil]
    exact congrArg (· ++ []) ea
  · have hp0 : 0 ≤ parI (treeC ts k) j := by
      rcases hC.up j hjC with h' | ⟨p, _, ep, _⟩
      · exact absurd h' h0
      · omega
    obtain ⟨p, hp⟩ : ∃ p : Nat, parI (treeC ts k) j = (p : Int) := ⟨(parI (treeC ts k) j).toNat, by omega⟩
    obtain ⟨hlt, e⟩ := chain_par hC hjC hp
    refine .inr ⟨p, hlt, by rw [← treeC_par]; exact hp, ?_⟩
    unfold outAts upAts
    rw [e, List.flatMap_cons]
    exact congrArg (· ++ _) ea

theorem par_el (hB : TreeP (branchL ts k)) (hk : k < ts.length) {j p : Nat} (hj : j < (branchL ts k).length) (hp : parI (branchL ts k) j = (p : Int)) : p < (branchL ts k).length ∧ ¬ (nodeAt ts (k + p)).name.size = 0 := by
  have hlen := branchL_len hk
  have hle := endN_le hk
  rcases hB.up j hj with h' | ⟨q, _, eq, h1, h2⟩
  · subst h'
    rw [hB.2.2.1] at hp
    omega
  · have : q = p := by omega
    subst this
    refine ⟨h1, ?_⟩
    rw [(branch_node hk (j := q) (by omega)).1, nodeAt_at h1]
    exact h2

/-- What stands around an element says what is said, and is right. -/
theorem said_out (hN : NamesP ts) (hk : k < ts.length) (hB : TreeP (branchL ts k)) (hC : TreeP (treeC ts k)) : ∀ n j, j < n → j < (branchL ts k).length → ¬ (nodeAt ts (k + j)).name.size = 0 →
    (∃ R, outAts (treeC ts k) j = attC ts (k + j) (sdC ts k j) ++ R ∧ SaidR R (sdC ts k j) ∧ R.all rightB = true) ∧ (outAts (treeC ts k) j).all rightB = true
  | 0, j, h, _, _ => absurd h (Nat.not_lt_zero _)
  | n + 1, j, h, hj, hn => by
    have hlen := branchL_len hk
    have hle := endN_le hk
    have hkj : k + j < ts.length := by omega
    have hr := right_of hN hkj hn
    have hatt : (attC ts (k + j) (sdC ts k j)).all rightB = true := by
      rw [List.all_eq_true]
      intro x hx
      rcases List.mem_append.1 hx with h1 | h1
      · obtain ⟨p, hp, rfl⟩ := List.mem_map.1 h1
        have hp2 := (List.mem_filter.1 hp).1
        exact mean_right hr (pre_ok hp2) (need_some hN hkj hn hp2)
      · unfold rightB
        rw [oth_nodecl h1]
    have fin : ∀ R, outAts (treeC ts k) j = attC ts (k + j) (sdC ts k j) ++ R → SaidR R (sdC ts k j) → R.all rightB = true → (∃ R, outAts (treeC ts k) j = attC ts (k + j) (sdC ts k j) ++ R ∧ SaidR R (sdC ts k j) ∧ R.all rightB = true) ∧ (outAts (treeC ts k) j).all rightB = true := fun R e1 e2 e3 =>
      ⟨⟨R, e1, e2, e3⟩, by rw [e1, List.all_append, hatt, e3]; rfl⟩
    rcases out_step hC hj hn with ⟨h0, e⟩ | ⟨p, hlt, hp, e⟩
    · refine fin [] e ?_ rfl
      subst h0
      exact saidR_nil
    · obtain ⟨hpl, hpn⟩ := par_el hB hk hj hp
      obtain ⟨⟨R, e1, e2, e3⟩, e4⟩ := said_out hN hk hB hC n p (by omega) hpl hpn
      refine fin _ e ?_ e4
      rw [e1, sdC_kid hB hj hp]
      exact said_next e2

/-- What is needed means there what it means here. -/
theorem treeC_mean (hN : NamesP ts) (hk : k < ts.length) (hB : TreeP (branchL ts k)) (hC : TreeP (treeC ts k)) {j : Nat} (hj : j < (branchL ts k).length) (hn : ¬ (nodeAt ts (k + j)).name.size = 0) {p : ByteArray} (hp : p ∈ preL7 (nodeAt ts (k + j)).name (nodeAt ts (k + j)).attrs) :
    meanF (treeC ts k) j p = some (mnF ts (k + j) p) := by
  obtain ⟨⟨R, e1, e2, e3⟩, e4⟩ := said_out hN hk hB hC (j + 1) j (by omega) hj hn
  rw [meanF_look e4, e1]
  exact said_mean e2 hp

theorem attC_nodecl (i : Nat) (sd : List At) : (attC ts i sd).filter nodeclB = othL ts i (nodeAt ts i).attrs := by
  rw [attC_is, List.filter_append]
  have e1 : (((newC ts i sd).map fun p => (⟨nmD p, mnF ts i p⟩ : At))).filter nodeclB = [] := by
    refine List.filter_eq_nil_iff.2 fun x hx => ?_
    obtain ⟨p, hp, rfl⟩ := List.mem_map.1 hx
    unfold nodeclB
    rw [nmD_decl (pre_ok (List.mem_filter.1 hp).1)]
    exact Bool.false_ne_true
  have e2 : (othL ts i (nodeAt ts i).attrs).filter nodeclB = othL ts i (nodeAt ts i).attrs := List.filter_eq_self.2 fun x hx => by
    unfold nodeclB
    rw [oth_nodecl hx]
    rfl
  rw [e1, e2, List.nil_append]

theorem cnt_nodecl {x : At} (h : cntB x = true) : nodeclB x = true := by
  unfold cntB at h
  rw [Bool.and_eq_true] at h
  exact h.1

theorem oth_perm (i : Nat) (l : List At) : (othL ts i l).Perm (l.filter nodeclB) := by
  rw [oth_sort]
  exact sort_perm _ _

theorem attC_cnt {i : Nat} {sd : List At} {x : At} (hc : cntB x = true) : x ∈ attC ts i sd ↔ x ∈ (nodeAt ts i).attrs := by
  have h1 : x ∈ attC ts i sd ↔ x ∈ (attC ts i sd).filter nodeclB := by
    rw [List.mem_filter]
    exact ⟨fun h => ⟨h, cnt_nodecl hc⟩, fun h => h.1⟩
  rw [h1, attC_nodecl, (oth_perm i _).mem_iff, List.mem_filter]
  exact ⟨fun h => h.1, fun h => ⟨h, cnt_nodecl hc⟩⟩

theorem attC_pre (i : Nat) (sd : List At) : preL7 (nodeAt ts i).name (attC ts i sd) = preL7 (nodeAt ts i).name (nodeAt ts i).attrs := by
  refine strict_same (pre_strict _ _).1 (pre_strict _ _).1 fun y => ?_
  rw [(pre_strict _ _).2, (pre_strict _ _).2]
  constructor
  · rintro (h | ⟨x, hx, hc, e⟩)
    · exact .inl h
    · exact .inr ⟨x, (attC_cnt hc).1 hx, hc, e⟩
  · rintro (h | ⟨x, hx, hc, e⟩)
    · exact .inl h
    · exact .inr ⟨x, (attC_cnt hc).2 hx, hc, e⟩

/-- What stands in order stays so. -/
theorem sort_rises {α : Type} {lt : α → α → Bool} (ho : OrdB lt) {l : List α} (h : RisesB lt l) : sortG lt l = l := by
  have key : ∀ n, n ≤ l.length → sortG lt (l.take n) = l.take n := by
    intro n
    induction n with
    | zero => intro _; rfl
    | succ n ih =>
      intro hn
      rw [sort_next lt (show n < l.length by omega), ih (by omega), take_snocN (show n < l.length by omega)]
      have h2 : RisesB lt (l.take (n + 1)) := List.Pairwise.sublist (List.take_sublist _ _) h
      rw [take_snocN (show n < l.length by omega)] at h2
      have h3 := List.pairwise_append.1 h2
      have e := ins_stop ho (P := l.take n) (Q := []) (x := l[n]) (by rw [List.append_nil]; exact h3.1) (fun q hq => absurd hq List.not_mem_nil) (fun y hy => h3.2.2 y (List.mem_of_getLast? hy) l[n] (by simp))
      rw [List.append_nil] at e
      exact e
  have := key l.length (Nat.le_refl _)
  rw [List.take_length] at this
  exact this

theorem attC_oth {us : List Tk} {i j : Nat} (sd : List At) (h : ∀ x ∈ attC ts i sd, cntB x = true → mnF us j (preS x.name) = mnF ts i (preS x.name)) : othL us j (attC ts i sd) = othL ts i (nodeAt ts i).attrs := by
  rw [oth_congr h, oth_sort, attC_nodecl, oth_sort]
  exact sort_rises (ahead_ord ts i) (sort_all (ahead_ord ts i) _).1

end

end Go.Proofs.YteninofjeidljaaGreat

namespace Go.Proofs.YteninofjeidljaaGreat

open Go.RowKit

set_option linter.unusedVariables false

section

variable {ts : List Tk} {k : Nat}

theorem nodeC_attrs {j : Nat} (hn : ¬ (nodeAt ts (k + j)).name.size = 0) : (nodeC ts k j).attrs = attC ts (k + j) (sdC ts k j) := by
  unfold nodeC
  simp only [hn, if_false]

theorem treeC_mn (hN : NamesP ts) (hk : k < ts.length) (hB : TreeP (branchL ts k)) (hC : TreeP (treeC ts k)) {j : Nat} (hj : j < (branchL ts k).length) (hn : ¬ (nodeAt ts (k + j)).name.size = 0) {p : ByteArray} (hp : p ∈ preL7 (nodeAt ts (k + j)).name (nodeAt ts (k + j)).attrs) :
    mnF (treeC ts k) j p = mnF ts (k + j) p := by
  have e := treeC_mean hN hk hB hC hj hn hp
  conv => lhs; unfold mnF
  rw [e]
  rfl

theorem cnt_need {i : Nat} {sd : List At} {x : At} (hx : x ∈ attC ts i sd) (hc : cntB x = true) : preS x.name ∈ preL7 (nodeAt ts i).name (nodeAt ts i).attrs :=
  ((pre_strict _ _).2 _).2 (.inr ⟨x, (attC_cnt hc).1 hx, hc, rfl⟩)

theorem treeC_alike (hN : NamesP ts) (hk : k < ts.length) (hB : TreeP (branchL ts k)) (hC : TreeP (treeC ts k)) {j : Nat} (hj : j < (branchL ts k).length) : AlikeN ts (treeC ts k) (k + j) j := by
  refine ⟨by rw [treeC_node hj]; rfl, by rw [treeC_node hj]; rfl, fun hn => ?_, fun hn => ?_, fun hn p hp => (treeC_mn hN hk hB hC hj hn hp).symm⟩
  · rw [treeC_node hj, nodeC_attrs hn]
    exact attC_pre _ _
  · rw [treeC_node hj, nodeC_attrs hn]
    exact attC_oth _ fun x hx hc => treeC_mn hN hk hB hC hj hn (cnt_need hx hc)

/-- It is written the same. -/
theorem treeC_canon (hN : NamesP ts) (hk : k < ts.length) (he : elN ts k) (hC : TreeP (treeC ts k)) {f : Nat} (hf : ts.length - k ≤ f) : canonN (treeC ts k) (-1) (treeC ts k).length 0 [] = canonN ts (-1) f k [] := by
  have hB := branch_tree hN.1 hk he
  have hlen := branchL_len hk
  have hle := endN_le hk
  have hC0 : 0 < (treeC ts k).length := by rw [treeC_len]; omega
  rw [canon_fuel (treeC ts k).length f 0 [] hC0 (by omega) (by rw [treeC_len]; omega)]
  have nb : ∀ l : List Nat, l.filter (notB (-1)) = l := fun l => List.filter_eq_self.2 fun x _ => by unfold notB; rw [decide_eq_false (by omega)]; rfl
  have key := canon_alike (ts := ts) (us := treeC ts k) (but := -1) (but' := -1) (fun i => i - k) (fun i => k ≤ i ∧ i < endN ts k) ?_ ?_ ?_ f k [] ⟨Nat.le_refl _, hle.1⟩
  · rw [key, Nat.sub_self]
  · intro i hi
    obtain ⟨j, rfl⟩ : ∃ j, i = k + j := ⟨i - k, by omega⟩
    show AlikeN ts (treeC ts k) (k + j) (k + j - k)
    rw [show k + j - k = j by omega]
    exact treeC_alike hN hk hB hC (by omega)
  · intro i hi
    exact ⟨by omega, by show ¬ ((i - k : Nat) : Int) = -1; omega⟩
  · intro i hi
    obtain ⟨j, rfl⟩ : ∃ j, i = k + j := ⟨i - k, by omega⟩
    have hj : j < (branchL ts k).length := by omega
    refine ⟨_, rfl, fun q hq => ?_, ?_⟩
    · rw [nb, kids_off hN.1 hk hj] at hq
      obtain ⟨x, hx, rfl⟩ := List.mem_map.1 hq
      have := kidsN_lt hx
      exact ⟨by omega, by omega⟩
    · show (kidsN (treeC ts k) (k + j - k)).filter (notB (-1)) = _
      rw [nb, nb, show k + j - k = j by omega, kids_same treeC_par treeC_len, kids_off hN.1 hk hj, List.map_map]
      conv => lhs; rw [← List.map_id (kidsN (branchL ts k) j)]
      refine List.map_congr_left fun x _ => ?_
      show x = k + x - k
      omega

/-- Its names are right. -/
theorem treeC_names (hN : NamesP ts) (hk : k < ts.length) (he : elN ts k) (hC : TreeP (treeC ts k)) : NamesP (treeC ts k) := by
  have hB := branch_tree hN.1 hk he
  have hlen := branchL_len hk
  have hle := endN_le hk
  refine ⟨hC, fun j t ht => ?_⟩
  have hj : j < (branchL ts k).length := by
    rcases Nat.lt_or_ge j (branchL ts k).length with h | h
    · exact h
    · rw [List.getElem?_eq_none (by rw [treeC_len]; exact h)] at ht; cases ht
  rw [treeC_get hj] at ht
  have e := Option.some.inj ht
  subst e
  by_cases hn : (nodeAt ts (k + j)).name.size = 0
  · exact .inl hn
  · have hkj : k + j < ts.length := by omega
    refine .inr ⟨?_, ?_, ?_⟩
    · show (meanF (treeC ts k) j (preS (nodeAt ts (k + j)).name)).isSome = true
      rw [treeC_mean hN hk hB hC hj hn (((pre_strict _ _).2 _).2 (.inl rfl))]
      rfl
    · show ¬ preS (nodeAt ts (k + j)).name = nsS
      rw [nodeAt_at hkj] at hn ⊢
      rcases hN.2 (k + j) ts[k + j] (List.getElem?_eq_getElem hkj) with h | ⟨_, h, _⟩
      · exact absurd h hn
      · exact h
    · rw [nodeC_attrs hn]
      refine ⟨fun x hx hc => by rw [treeC_mean hN hk hB hC hj hn (cnt_need hx hc)]; rfl, ?_⟩
      unfold keysN
      have e1 : ((attC ts (k + j) (sdC ts k j)).filter cntB).map (keyN (treeC ts k) j) = ((attC ts (k + j) (sdC ts k j)).filter cntB).map (keyN ts (k + j)) := by
        refine List.map_congr_left fun x hx => ?_
        obtain ⟨h1, h2⟩ := List.mem_filter.1 hx
        have e := treeC_mn hN hk hB hC hj hn (cnt_need h1 h2)
        unfold mnF at e
        unfold keyN
        rw [e]
      have e2 : (attC ts (k + j) (sdC ts k j)).filter cntB = (othL ts (k + j) (nodeAt ts (k + j)).attrs).filter cntB := by
        rw [← attC_nodecl (k + j) (sdC ts k j), List.filter_filter]
        refine List.filter_congr fun x _ => ?_
        cases hc : cntB x with
        | true => rw [cnt_nodecl hc]; rfl
        | false => rfl
      rw [e1, e2]
      have hp : ((othL ts (k + j) (nodeAt ts (k + j)).attrs).filter cntB).Perm ((nodeAt ts (k + j)).attrs.filter cntB) := by
        have h1 := (oth_perm (ts := ts) (k + j) (nodeAt ts (k + j)).attrs).filter cntB
        rw [List.filter_filter] at h1
        have e3 : (nodeAt ts (k + j)).attrs.filter (fun a => cntB a && nodeclB a) = (nodeAt ts (k + j)).attrs.filter cntB := by
          refine List.filter_congr fun x _ => ?_
          cases hc : cntB x with
          | true => rw [cnt_nodecl hc]; rfl
          | false => rfl
        rw [e3] at h1
        exact h1
      refine ((hp.map (keyN ts (k + j))).nodup_iff).2 ?_
      rw [nodeAt_at hkj] at hn ⊢
      rcases hN.2 (k + j) ts[k + j] (List.getElem?_eq_getElem hkj) with h | ⟨_, _, h⟩
      · exact absurd h hn
      · exact h.2

/-- Read again, where it can be read: right names, and written the same. -/
theorem canon_again (hN : NamesP ts) (hk : k < ts.length) (he : elN ts k) {f : Nat} (hf : ts.length - k ≤ f) :
    toksF (canonN ts (-1) f k []).data.toList = none ∨ ∃ l, toksF (canonN ts (-1) f k []).data.toList = some l ∧ grownT l = some (treeC ts k) ∧ NamesP (treeC ts k) ∧ canonN (treeC ts k) (-1) (treeC ts k).length 0 [] = canonN ts (-1) f k [] := by
  rcases canon_read hN [] hk hf with h | ⟨h1, h2, h3⟩
  · exact .inl h
  · obtain ⟨hC, hg⟩ := canon_grown hN.1 hk he hf h2
    exact .inr ⟨_, h1, hg, treeC_names hN hk he hC, treeC_canon hN hk he hC hf⟩

end

end Go.Proofs.YteninofjeidljaaGreat

namespace Go.Proofs.YteninofjeidljaaGreat

open Go.RowKit

set_option linter.unusedVariables false

/-- Where a node stands once those from a up to h are gone. -/
def gapF (a h x : Nat) : Nat := if x < a then x else x - (h - a)

def stays (a h x : Nat) : Prop := x < a ∨ h ≤ x

structure Gap (ts us : List Tk) (a h : Nat) : Prop where
  tree : TreeP ts
  tree' : TreeP us
  ah : a < h
  hn : h ≤ ts.length
  one : 1 ≤ a
  len : us.length + (h - a) = ts.length
  name : ∀ x, x < ts.length → stays a h x → (nodeAt us (gapF a h x)).name = (nodeAt ts x).name
  attrs : ∀ x, x < ts.length → stays a h x → (nodeAt us (gapF a h x)).attrs = (nodeAt ts x).attrs
  par : ∀ x, x < ts.length → stays a h x → parI us (gapF a h x) = (if (h : Int) ≤ parI ts x then parI ts x - ((h : Int) - (a : Int)) else parI ts x)
  out : ∀ x, x < ts.length → stays a h x → parI ts x < (a : Int) ∨ (h : Int) ≤ parI ts x

variable {ts us : List Tk} {a h : Nat}

theorem gapF_low {x : Nat} (hx : x < a) : gapF a h x = x := if_pos hx

theorem gapF_high {x : Nat} (ha : a < h) (hx : h ≤ x) : gapF a h x = x - (h - a) := if_neg (by omega)

theorem gapF_lt (ha : a < h) {x y : Nat} (hx : stays a h x) (hy : stays a h y) : gapF a h x < gapF a h y ↔ x < y := by
  unfold stays at hx hy
  rcases hx with hx | hx <;> rcases hy with hy | hy
  · rw [gapF_low hx, gapF_low hy]
  · rw [gapF_low hx, gapF_high ha hy]; omega
  · rw [gapF_high ha hx, gapF_low hy]; omega
  · rw [gapF_high ha hx, gapF_high ha hy]; omega

theorem gapF_inj (ha : a < h) {x y : Nat} (hx : stays a h x) (hy : stays a h y) (e : gapF a h x = gapF a h y) : x = y := by
  have h1 := gapF_lt ha hx hy
  have h2 := gapF_lt ha hy hx
  omega

theorem Gap.below (g : Gap ts us a h) {x : Nat} (hx : x < ts.length) (hs : stays a h x) : gapF a h x < us.length := by
  have := g.len
  have := g.ah
  have := g.hn
  rcases hs with hs | hs
  · rw [gapF_low hs]; omega
  · rw [gapF_high g.ah hs]; omega

/-- The parent of one that stays, here and there. -/
theorem Gap.up (g : Gap ts us a h) {x : Nat} (hx : x < ts.length) (hs : stays a h x) (h0 : ¬ x = 0) : ∃ p : Nat, parI ts x = (p : Int) ∧ p < x ∧ stays a h p ∧ parI us (gapF a h x) = (gapF a h p : Int) := by
  have hl := low_kind g.tree hx
  have hp : 0 ≤ parI ts x := by
    rcases g.tree.up x hx with h' | ⟨p, _, ep, _⟩
    · exact absurd h' h0
    · omega
  obtain ⟨p, ep⟩ : ∃ p : Nat, parI ts x = (p : Int) := ⟨(parI ts x).toNat, by omega⟩
  have ho := g.out x hx hs
  have hq := g.par x hx hs
  have ha := g.ah
  rw [ep] at ho hl hq
  refine ⟨p, ep, by omega, by unfold stays; omega, ?_⟩
  rw [hq]
  by_cases q : h ≤ p
  · rw [if_pos (by omega), gapF_high ha q]; omega
  · rw [if_neg (by omega), gapF_low (by omega)]

theorem Gap.kept (g : Gap ts us a h) : Kept ts us (gapF a h) (fun x => x < ts.length ∧ stays a h x) := by
  refine ⟨g.tree, g.tree', fun i hi => ⟨hi.1, g.below hi.1 hi.2⟩, fun i hi h0 => ?_, fun i hi h0 => ?_, fun i hi => g.attrs i hi.1 hi.2⟩
  · have := g.one
    rw [gapF_low (by omega)]
    exact h0
  · obtain ⟨p, ep, hlt, hs, eq⟩ := g.up hi.1 hi.2 h0
    exact ⟨p, ep, ⟨by have := hi.1; omega, hs⟩, eq⟩

instance (a h x : Nat) : Decidable (stays a h x) := by unfold stays; infer_instance

theorem filt_none {α : Type} {p : α → Bool} : ∀ {l : List α}, (∀ x ∈ l, p x = false) → l.filter p = []
  | [], _ => rfl
  | x :: l, h => by rw [List.filter_cons_of_neg (by rw [h x (by simp)]; exact Bool.false_ne_true), filt_none (fun y hy => h y (by simp [hy]))]

theorem filt_all {α : Type} {p : α → Bool} {l : List α} (h : ∀ x ∈ l, p x = true) : l.filter p = l := List.filter_eq_self.2 h

/-- The places there are those of the ones that stay. -/
theorem gap_range (ha : a < h) {n m : Nat} (hn : h ≤ n) (hm : m + (h - a) = n) : ((List.range n).filter fun x => decide (stays a h x)).map (gapF a h) = List.range m := by
  have e : List.range n = List.range a ++ (List.range' a (h - a) ++ List.range' h (n - h)) := by
    rw [List.range_eq_range', List.range_eq_range', show List.range' h (n - h) = List.range' (a + (h - a)) (n - h) by rw [show a + (h - a) = h by omega], List.range'_append_1, show List.range' a (h - a + (n - h)) = List.range' (0 + a) (h - a + (n - h)) by rw [Nat.zero_add], List.range'_append_1]
    congr 1
    omega
  rw [e, List.filter_append, List.filter_append]
  rw [filt_all (l := List.range a) (fun x hx => decide_eq_true (.inl (List.mem_range.1 hx)))]
  rw [filt_none (l := List.range' a (h - a)) (fun x hx => decide_eq_false (by have := List.mem_range'_1.1 hx; unfold stays; omega))]
  rw [filt_all (l := List.range' h (n - h)) (fun x hx => decide_eq_true (.inr (List.mem_range'_1.1 hx).1))]
  rw [List.nil_append, List.map_append]
  have e1 : (List.range a).map (gapF a h) = List.range a := by
    conv => rhs; rw [← List.map_id (List.range a)]
    exact List.map_congr_left fun x hx => gapF_low (List.mem_range.1 hx)
  have e2 : (List.range' h (n - h)).map (gapF a h) = List.range' a (n - h) := by
    have : (List.range' h (n - h)) = (List.range' a (n - h)).map (fun x => (h - a) + x) := by
      rw [List.map_add_range', show h - a + a = h by omega]
    rw [this, List.map_map]
    conv => rhs; rw [← List.map_id (List.range' a (n - h))]
    refine List.map_congr_left fun x hx => ?_
    have := (List.mem_range'_1.1 hx).1
    show gapF a h (h - a + x) = x
    rw [gapF_high ha (by omega)]
    omega
  rw [e1, e2, List.range_eq_range', show List.range' a (n - h) = List.range' (0 + a) (n - h) by rw [Nat.zero_add], List.range'_append_1, List.range_eq_range']
  congr 1
  omega

/-- The kids there are the kids here that stay. -/
theorem Gap.kids (g : Gap ts us a h) {i : Nat} (hi : i < ts.length) (hs : stays a h i) : kidsN us (gapF a h i) = ((kidsN ts i).filter fun x => decide (stays a h x)).map (gapF a h) := by
  unfold kidsN kidsTo
  rw [← gap_range g.ah g.hn g.len, List.filter_map, List.filter_filter, List.filter_filter]
  congr 1
  refine List.filter_congr fun x hx => ?_
  have hxn := List.mem_range.1 hx
  by_cases hsx : stays a h x
  · rw [decide_eq_true hsx, Bool.and_true, Bool.true_and]
    show (decide (gapF a h i < gapF a h x) && decide (parI us (gapF a h x) = (gapF a h i : Int))) = _
    rw [decide_eq_decide.2 (gapF_lt g.ah hs hsx)]
    congr 1
    apply decide_eq_decide.2
    by_cases h0 : x = 0
    · subst h0
      have e0 : gapF a h 0 = 0 := gapF_low (by have := g.one; omega)
      rw [e0, g.tree'.2.2.1, g.tree.2.2.1]
      omega
    · obtain ⟨p, ep, _, hsp, eq⟩ := g.up hxn hsx h0
      rw [ep, eq]
      constructor
      · intro h'
        have := gapF_inj g.ah hsp hs (by omega)
        omega
      · intro h'
        have : p = i := by omega
        subst this
        rfl
  · rw [decide_eq_false hsx, Bool.and_false, Bool.false_and]

end Go.Proofs.YteninofjeidljaaGreat
