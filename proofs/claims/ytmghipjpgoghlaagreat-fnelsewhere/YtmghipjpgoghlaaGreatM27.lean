/- A branch that means the same elsewhere is written the same there (mathematics alone). Nodes copied one by one: contracts of the specification's l8Copy, l10Branch and Branch. Contracts of the specification's l10Branch and Branch. -/
import Derived.Test.YtmghipjpgoghlaaGreatM25
import Derived.Test.YtmghipjpgoghlaaGreatM26
import Derived.Test.YtmghipjpgoghlaaGreatM10
import Derived.Test.YtmghipjpgoghlaaGreatM11
namespace Go.Proofs.YtmghipjpgoghlaaGreat
open Go.RowKit
set_option linter.unusedVariables false

section
variable {ts : List Tk} {k : Nat}

theorem kids_inner (hT : TreeP ts) (hk : k < ts.length) {j : Nat} (hj : k + j < endN ts k) : kidsN ts (k + j) = (kidsN (branchL ts k) j).map (fun x => k + x) := by
  have hle := endN_le hk
  have hlen := branchL_len hk
  have hkj : k + j < ts.length := by omega
  have hend : endN ts (k + j) ≤ endN ts k := by
    rcases Nat.eq_zero_or_pos j with h | h
    · subst h; exact Nat.le_refl _
    · exact (kid_end hk (show k < k + j by omega) hj).1
  rw [kidsN_from hkj, kidsN_from (ts := branchL ts k) (k := j) (by omega), kidsFrom_split (b := endN ts k) (by omega) hle.2, kidsFrom_none (fun i h1 h2 => no_kid hT hkj (by omega) h2), List.append_nil, hlen]
  unfold kidsFrom
  have e : List.range' (k + j + 1) (endN ts k - (k + j + 1)) = (List.range' (j + 1) (endN ts k - k - (j + 1))).map (fun x => k + x) := by
    rw [List.map_add_range', show endN ts k - k - (j + 1) = endN ts k - (k + j + 1) by omega]
    rfl
  rw [e, List.filter_map]
  congr 1
  refine List.filter_congr fun i hi => ?_
  rw [List.mem_range'_1] at hi
  show decide (parI ts (k + i) = ((k + j : Nat) : Int)) = decide (parI (branchL ts k) i = ((j : Nat) : Int))
  rw [branch_par hk (by omega), if_neg (by omega)]
  apply decide_eq_decide.2
  omega

theorem out_branch (hT : TreeP ts) (hk : k < ts.length) {j : Nat} (hj : k + j < endN ts k) : outAts ts (k + j) = outAts (branchL ts k) j ++ upAts ts (chainF ts (k + 1)).tail := by
  unfold outAts
  rw [chain_branch hT hk j hj]
  unfold upAts
  rw [List.flatMap_append, List.flatMap_map]
  congr 1
  have hlen := branchL_len hk
  have hmem : ∀ x ∈ chainF (branchL ts k) (j + 1), k + x < endN ts k := fun x hx => by
    have : x < j + 1 := chain_low (branchL ts k) j x hx
    omega
  refine flat_congr fun x hx => ?_
  obtain ⟨h1, h2, e⟩ := branch_get hk (hmem x hx)
  rw [List.getElem?_eq_getElem h1, List.getElem?_eq_getElem h2, e]
  rfl
where
  flat_congr {α β : Type} {f g : α → List β} : ∀ {l : List α}, (∀ x ∈ l, f x = g x) → l.flatMap f = l.flatMap g
    | [], _ => rfl
    | x :: l, h => by
      rw [List.flatMap_cons, List.flatMap_cons, h x (by simp), flat_congr (fun y hy => h y (by simp [hy]))]
  chain_low (ts : List Tk) : ∀ (i : Nat), ∀ p ∈ chainF ts (i + 1), p < i + 1
    | 0, p, hp => by have : p ∈ [0] := hp; simp at this; omega
    | i + 1, p, hp => by
      have e : chainF ts (i + 1 + 1) = (i + 1) :: (chainF ts (i + 1)).dropWhile (fun (x : Nat) => !decide ((x : Int) = parI ts (i + 1))) := rfl
      rw [e] at hp
      rcases List.mem_cons.1 hp with rfl | hp
      · omega
      · have := chain_low ts i p ((List.dropWhile_sublist _).subset hp)
        omega

end

theorem tw_congr {α : Type} {p q : α → Bool} : ∀ {l : List α}, (∀ x ∈ l, p x = q x) → l.takeWhile p = l.takeWhile q
  | [], _ => rfl
  | x :: l, h => by
    rw [List.takeWhile_cons, List.takeWhile_cons, h x (by simp), tw_congr (fun y hy => h y (by simp [hy]))]

theorem sort_congr {α : Type} {lt lt' : α → α → Bool} (l : List α) (h : ∀ x ∈ l, ∀ y ∈ l, lt x y = lt' x y) : sortG lt l = sortG lt' l := by
  unfold sortG
  have key : ∀ (l m : List α), (∀ x ∈ l, ∀ y, y ∈ m ∨ y ∈ l → lt x y = lt' x y) → l.foldl (insG lt) m = l.foldl (insG lt') m := by
    intro l
    induction l with
    | nil => intro m _; rfl
    | cons x l ih =>
      intro m hm
      rw [List.foldl_cons, List.foldl_cons]
      have e : insG lt m x = insG lt' m x := by
        unfold insG
        rw [tw_congr (p := fun y => !lt x y) (q := fun y => !lt' x y) (fun y hy => by show (!lt x y) = !lt' x y; rw [hm x (by simp) y (.inl hy)])]
      rw [e]
      refine ih _ fun z hz y hy => hm z (by simp [hz]) y ?_
      rcases hy with hy | hy
      · rcases ins_mem.1 hy with rfl | hy
        · exact .inr (by simp)
        · exact .inl hy
      · exact .inr (by simp [hy])
  exact key l [] fun x hx y hy => h x hx y (hy.resolve_left List.not_mem_nil)

theorem oth_congr {ts us : List Tk} {k m : Nat} {l : List At} (h : ∀ x ∈ l, cntB x = true → mnF ts k (preS x.name) = mnF us m (preS x.name)) : othL ts k l = othL us m l := by
  rw [oth_sort, oth_sort]
  have hm : ∀ x ∈ l.filter nodeclB, atMean ts k x = atMean us m x := fun x hx => by
    obtain ⟨h1, h2⟩ := List.mem_filter.1 hx
    unfold atMean
    by_cases h0 : (preS x.name).size = 0
    · rw [if_pos h0, if_pos h0]
    · rw [if_neg h0, if_neg h0]
      exact h x h1 (by unfold cntB; unfold nodeclB at h2; rw [h2, decide_eq_false h0]; rfl)
  refine sort_congr _ fun x hx y hy => ?_
  unfold aheadF
  rw [hm x hx, hm y hy]

theorem dcl_congr {ts us : List Tk} {k m : Nat} : ∀ (ps : List ByteArray) (sd : List At) (s : ByteArray), (∀ p ∈ ps, mnF ts k p = mnF us m p) → dclL ts k sd s ps = dclL us m sd s ps
  | [], sd, s, _ => rfl
  | p :: ps, sd, s, h => by
    have e1 : dclL ts k sd s (p :: ps) = dclL ts k (dclF ts k (sd, s) p).1 (dclF ts k (sd, s) p).2 ps := rfl
    have e2 : dclL us m sd s (p :: ps) = dclL us m (dclF us m (sd, s) p).1 (dclF us m (sd, s) p).2 ps := rfl
    have e3 : dclF ts k (sd, s) p = dclF us m (sd, s) p := by unfold dclF; rw [h p (by simp)]
    rw [e1, e2, e3]
    exact dcl_congr ps _ _ (fun q hq => h q (by simp [hq]))

/-- Two nodes that look alike, and whose prefixes mean the same. -/
structure AlikeN (ts us : List Tk) (i i' : Nat) : Prop where
  name : (nodeAt us i').name = (nodeAt ts i).name
  text : (nodeAt us i').text = (nodeAt ts i).text
  pre : ¬ (nodeAt ts i).name.size = 0 → preL7 (nodeAt us i').name (nodeAt us i').attrs = preL7 (nodeAt ts i).name (nodeAt ts i).attrs
  oth : ¬ (nodeAt ts i).name.size = 0 → othL us i' (nodeAt us i').attrs = othL ts i (nodeAt ts i).attrs
  mean : ¬ (nodeAt ts i).name.size = 0 → ∀ p ∈ preL7 (nodeAt ts i).name (nodeAt ts i).attrs, mnF ts i p = mnF us i' p

/-- What looks alike is written alike. -/
theorem canon_alike {ts us : List Tk} {but but' : Int} (φ : Nat → Nat) (D : Nat → Prop) (hA : ∀ i, D i → AlikeN ts us i (φ i)) (hb : ∀ i, D i → ¬ (i : Int) = but ∧ ¬ (φ i : Int) = but')
    (hK : ∀ i, D i → ∃ K, (kidsN ts i).filter (notB but) = K ∧ (∀ j ∈ K, D j) ∧ (kidsN us (φ i)).filter (notB but') = K.map φ) :
    ∀ f i sd, D i → canonN ts but f i sd = canonN us but' f (φ i) sd
  | 0, i, sd, _ => rfl
  | f + 1, i, sd, hi => by
    have a := hA i hi
    obtain ⟨b1, b2⟩ := hb i hi
    by_cases hn : (nodeAt ts i).name.size = 0
    · rw [canonN_text rfl b1 hn, canonN_text rfl b2 (by rw [a.name]; exact hn), a.text]
    · rw [canonN_el rfl b1 hn, canonN_el rfl b2 (by rw [a.name]; exact hn)]
      have ed := dcl_congr (ts := ts) (us := us) (k := i) (m := φ i) (preL7 (nodeAt ts i).name (nodeAt ts i).attrs) sd ((⟨#[60]⟩ : ByteArray) ++ (nodeAt ts i).name) (a.mean hn)
      have eh : headS us (φ i) sd (nodeAt us (φ i)) = headS ts i sd (nodeAt ts i) := by
        unfold headS
        rw [a.oth hn, a.pre hn, a.name, ← ed]
      have es : saidL us (φ i) sd (nodeAt us (φ i)) = saidL ts i sd (nodeAt ts i) := by
        unfold saidL
        rw [a.pre hn, a.name, ← ed]
      obtain ⟨K, k1, k2, k3⟩ := hK i hi
      have zero : ∀ (tt : List Tk) (b : Int) (sd : List At) (j : Nat), (j : Int) = b → canonN tt b f j sd = ⟨#[]⟩ := fun tt b sd j hj => by
        cases f with
        | zero => rfl
        | succ f => exact canonN_but hj
      rw [fold_cat _ but _ _ (zero ts but _), fold_cat _ but' _ _ (zero us but' _), eh, es, a.name, k1, k3, List.map_map]
      congr 5
      refine List.map_congr_left fun j hj => ?_
      exact canon_alike φ D hA hb hK f j _ (k2 j hj)

/-- More room changes nothing. -/
theorem canon_fuel {ts : List Tk} {but : Int} : ∀ (f f' k : Nat) (sd : List At), k < ts.length → ts.length ≤ f + k → ts.length ≤ f' + k → canonN ts but f k sd = canonN ts but f' k sd
  | 0, f', k, sd, h1, h2, _ => by omega
  | f + 1, 0, k, sd, h1, _, h3 => by omega
  | f + 1, f' + 1, k, sd, h1, h2, h3 => by
    by_cases hb : (k : Int) = but
    · rw [canonN_but hb, canonN_but hb]
    · by_cases hn : (nodeAt ts k).name.size = 0
      · rw [canonN_text rfl hb hn, canonN_text rfl hb hn]
      · rw [canonN_el rfl hb hn, canonN_el rfl hb hn]
        congr 3
        have key : ∀ (l : List Nat) (s : ByteArray), (∀ j ∈ l, j < ts.length ∧ k < j) → l.foldl (fun s j => s ++ canonN ts but f j (saidL ts k sd (nodeAt ts k))) s = l.foldl (fun s j => s ++ canonN ts but f' j (saidL ts k sd (nodeAt ts k))) s := by
          intro l
          induction l with
          | nil => intro s _; rfl
          | cons j l ih =>
            intro s hl
            have := hl j (by simp)
            rw [List.foldl_cons, List.foldl_cons, canon_fuel f f' j _ this.1 (by omega) (by omega), ih _ (fun i hi => hl i (by simp [hi]))]
        refine key _ _ fun j hj => ⟨kidsN_lt hj, ?_⟩
        have h2 := (List.mem_filter.1 hj).2
        simp only [Bool.and_eq_true, decide_eq_true_eq] at h2
        exact h2.1

theorem branch_node {ts : List Tk} {k : Nat} (hk : k < ts.length) {j : Nat} (hj : k + j < endN ts k) : (nodeAt ts (k + j)).name = (nodeAt (branchL ts k) j).name ∧ (nodeAt ts (k + j)).attrs = (nodeAt (branchL ts k) j).attrs ∧ (nodeAt ts (k + j)).text = (nodeAt (branchL ts k) j).text := by
  obtain ⟨h1, h2, e⟩ := branch_get hk hj
  rw [nodeAt_at h1, nodeAt_at h2, e]
  exact ⟨rfl, rfl, rfl⟩

/-- The same branch elsewhere. -/
theorem canon_moved {ts us : List Tk} {k m : Nat} (hT : TreeP ts) (hU : TreeP us) (hk : k < ts.length) (hm : m < us.length) (hbr : branchL us m = branchL ts k)
    (hM : ∀ j, j < (branchL ts k).length → ¬ (nodeAt (branchL ts k) j).name.size = 0 → ∀ p ∈ preL7 (nodeAt (branchL ts k) j).name (nodeAt (branchL ts k) j).attrs, mnF ts (k + j) p = mnF us (m + j) p) (f : Nat) (sd : List At) :
    canonN ts (-1) f k sd = canonN us (-1) f m sd := by
  have l1 := branchL_len hk
  have l2 := branchL_len hm
  have e1 := endN_le hk
  have e2 := endN_le hm
  rw [hbr, l1] at l2
  have key := canon_alike (ts := ts) (us := us) (but := -1) (but' := -1) (fun i => m + (i - k)) (fun i => k ≤ i ∧ i < endN ts k) ?_ ?_ ?_ f k sd ⟨Nat.le_refl _, e1.1⟩
  · rw [key, Nat.sub_self, Nat.add_zero]
  · intro i hi
    obtain ⟨j, rfl⟩ : ∃ j, i = k + j := ⟨i - k, by omega⟩
    have n1 := branch_node hk hi.2
    have n2 := branch_node hm (j := j) (by omega)
    rw [hbr] at n2
    have ej : m + (k + j - k) = m + j := by omega
    show AlikeN ts us (k + j) (m + (k + j - k))
    rw [ej]
    have hmean : ¬ (nodeAt ts (k + j)).name.size = 0 → ∀ p ∈ preL7 (nodeAt ts (k + j)).name (nodeAt ts (k + j)).attrs, mnF ts (k + j) p = mnF us (m + j) p := fun hn p hp => by
      rw [n1.1] at hn
      rw [n1.1, n1.2.1] at hp
      exact hM j (by omega) hn p hp
    refine ⟨by rw [n2.1, n1.1], by rw [n2.2.2, n1.2.2], fun _ => by rw [n2.1, n2.2.1, n1.1, n1.2.1], fun hn => ?_, hmean⟩
    rw [n2.2.1, ← n1.2.1]
    refine (oth_congr fun x hx hc => ?_).symm
    exact hmean hn _ ((pre_strict _ _).2 _ |>.2 (.inr ⟨x, hx, hc, rfl⟩))
  · intro i hi
    exact ⟨by omega, by show ¬ ((m + (i - k) : Nat) : Int) = -1; omega⟩
  · intro i hi
    obtain ⟨j, rfl⟩ : ∃ j, i = k + j := ⟨i - k, by omega⟩
    have nb : ∀ l : List Nat, l.filter (notB (-1)) = l := fun l => List.filter_eq_self.2 fun x _ => by unfold notB; rw [decide_eq_false (by omega)]; rfl
    refine ⟨_, rfl, fun q hq => ?_, ?_⟩
    · rw [nb, kids_inner hT hk hi.2] at hq
      obtain ⟨x, hx, rfl⟩ := List.mem_map.1 hq
      have := kidsN_lt hx
      exact ⟨by omega, by omega⟩
    · show (kidsN us (m + (k + j - k))).filter (notB (-1)) = _
      rw [nb, nb, show m + (k + j - k) = m + j by omega, kids_inner hU hm (by omega), kids_inner hT hk hi.2, hbr, List.map_map]
      refine List.map_congr_left fun x _ => ?_
      show m + x = m + (k + x - k)
      omega

end Go.Proofs.YtmghipjpgoghlaaGreat

namespace Go.Proofs.YtmghipjpgoghlaaGreat
open Go.RowKit
set_option linter.unusedVariables false
set_option linter.unusedSimpArgs false

theorem stopG {p : Prop} (h : Hid p) : p := h

theorem own_setG {w : World} {B : Nat} {a : Option Addr} {l : List At} (h : OwnAts w B a l) {p : Addr} (hp : p.block < B) (u : Value) : OwnAts (w.setCell p u) B a l := fun hl => by
  obtain ⟨g, o, cu, e1, e2, e3, e4⟩ := h hl
  refine ⟨g, o, cu, e1, e2, ?_, e4⟩
  rw [Below.heap_setCell _ _ _ _ (by omega)]
  exact e3

theorem own_lift {w : World} {B B' : Nat} {a : Option Addr} {l : List At} (h : OwnAts w B' a l) (hB : B ≤ B') : OwnAts w B a l := fun hl => by
  obtain ⟨g, o, cu, e1, e2, e3⟩ := h hl
  exact ⟨g, o, cu, e1, Nat.le_trans hB e2, e3⟩

theorem box_set {w : World} {g : Nat} {cur : Array Value} {T : TypeId} (h : w.heap[g]? = some (.cells cur T (0, 0))) (j : Nat) (v : Value) : (w.setCell ⟨g, j, none⟩ v).heap[g]? = some (.cells (cur.setIfInBounds j v) T (0, 0)) := heap_setCell_same w g j cur T v h

theorem node_cells {w : World} {g : Nat} {t : Tk} {a1 : Option Addr} {c1 : Nat} (h : w.heap[g]? = some (.cells #[.int .i64 t.kind, .string t.name, .slice a1 t.attrs.length c1, .string t.text] 33 (0, 0))) :
    ∀ j u, (Nd.cs [⟨t, a1, c1⟩])[j]? = some u → w.cell? ((⟨g, 0, none⟩ : Addr).add j) = some u := by
  intro j u hj
  rw [add_plainW, Nat.zero_add, Lib.cell_of_heap h]
  rw [Nd.cs_one] at hj
  match j, hj with
  | 0, hj => exact hj
  | 1, hj => exact hj
  | 2, hj => exact hj
  | 3, hj => exact hj

/-- append of a node to a row of one's own, its attrs made since. -/
theorem wpL_node (W : World) {ops : Array Oper} {rest : List Oper} {o : Oper} {a : Act} {Q : Exit → Act → World → Prop} (hgd : o.guard = none) (s x : Operand)
    (ho : o.op = .call { callee := .builtin .append, args := #[s, x], argTypes := #[24, 24] }) (base : Nat) (v : Value) (es : List Nd.E) (hs : a.eval s = v) (wr : World) (hrow : Nd.Row wr base v es) (hb0 : base ≤ wr.heap.size) (hB : Below wr.heap.size wr W)
    (t : Tk) (a1 : Option Addr) (c1 g : Nat) (hx : a.eval x = .slice (some ⟨g, 0, none⟩) 1 1) (hg : W.heap[g]? = some (.cells #[.int .i64 t.kind, .string t.name, .slice a1 t.attrs.length c1, .string t.text] 33 (0, 0))) (hA : OwnAts W wr.heap.size a1 t.attrs) (hn : es.length ≤ 1048576)
    (h : ∀ a' c' w', Nd.Row w' base (.slice a' (es ++ [(⟨t, a1, c1⟩ : Nd.E)]).length c') (es ++ [⟨t, a1, c1⟩]) → Below base W w' → wpList Tryz.prog ops Q rest (a.put o.dst (.slice a' (es ++ [(⟨t, a1, c1⟩ : Nd.E)]).length c')) w') : wpList Tryz.prog ops Q (o :: rest) a W := by
  have hbW : base ≤ W.heap.size := Nat.le_trans hb0 hB.size
  refine Nd.wpL_join W hgd s x ho base v es [⟨t, a1, c1⟩] hs (hrow.below hB) g 1 1 hx rfl (node_cells hg) (fun e he => ?_) (List.pairwise_singleton _ _) (fun e he f hf => ?_) (by show es.length + 1 ≤ _; omega) hbW (fun a' c' w' h1 h2 _ => h a' c' w' h1 h2)
  · rw [List.mem_singleton] at he
    subst he
    refine ⟨own_lift hA hb0, fun g' o' hl e1 e2 => ?_⟩
    obtain ⟨g2, o2, cu, k1, k2, _⟩ := hA hl
    rw [k1] at e1
    cases e1
    have := (hrow.own.lt _ e2).2
    omega
  · rw [List.mem_singleton] at hf
    subst hf
    intro hl hl' g1 o1 g2 o2 e1 e2 e3
    obtain ⟨k, ko, cu, k1, k2, _⟩ := hA hl'
    obtain ⟨m, mo, cm, m1, m2, m3, _⟩ := (hrow.ats e he).1 hl
    rw [k1] at e2
    rw [m1] at e1
    cases e1
    cases e2
    have := lt_of_heap m3
    omega

/-- The row so far is this one. -/
structure RowOf (w wr : World) (v : Value) (L : List Tk) : Prop where
  row : ∃ es a c, v = .slice a es.length c ∧ Nd.Row wr w.heap.size (.slice a es.length c) es ∧ es.map (·.t) = L
  bel : Below w.heap.size w wr

theorem RowOf.open {w wr : World} {v : Value} {L : List Tk} (h : RowOf w wr v L) : ∃ es a c, v = .slice a es.length c ∧ Nd.Row wr w.heap.size (.slice a es.length c) es ∧ es.map (·.t) = L ∧ es.length = L.length := by
  obtain ⟨es, a, c, e1, e2, e3⟩ := h.row
  exact ⟨es, a, c, e1, e2, e3, by rw [← e3, List.length_map]⟩

theorem RowOf.tk {w wr : World} {v : Value} {L : List Tk} (h : RowOf w wr v L) : ∃ a c, v = .slice a L.length c ∧ TkRow wr a L := by
  obtain ⟨es, a, c, rfl, hr, hm, hl⟩ := h.open
  obtain ⟨a2, c2, e, ht⟩ := hr.tkRow
  cases e
  rw [hm] at ht
  exact ⟨a, c, by rw [hl], ht⟩

theorem RowOf.start {w wr : World} (hb : Below w.heap.size w wr) {g : Nat} (hg : w.heap.size ≤ g) (hh : wr.heap[g]? = some (.cells #[] 33 (0, 0))) : RowOf w wr (.slice (some ⟨g, 0, none⟩) 0 0) [] :=
  ⟨⟨[], _, _, rfl, Nd.Row.start _ _ _ hg hh, rfl⟩, hb⟩

theorem RowOf.below {w wr w' : World} {v : Value} {L : List Tk} (h : RowOf w wr v L) (hb : Below wr.heap.size wr w') : RowOf w w' v L := by
  obtain ⟨es, a, c, e1, e2, e3⟩ := h.row
  exact ⟨⟨es, a, c, e1, e2.below hb, e3⟩, bb h.bel hb⟩

theorem RowOf.more {w w' : World} {es : List Nd.E} {a : Option Addr} {c : Nat} {L : List Tk} {t : Tk} {a1 : Option Addr} {c1 : Nat} (hm : es.map (·.t) = L) (h : Nd.Row w' w.heap.size (.slice a (es ++ [(⟨t, a1, c1⟩ : Nd.E)]).length c) (es ++ [⟨t, a1, c1⟩])) (hb : Below w.heap.size w w') : RowOf w w' (.slice a (es ++ [(⟨t, a1, c1⟩ : Nd.E)]).length c) (L ++ [t]) :=
  ⟨⟨_, a, c, rfl, h, by rw [List.map_append, hm]; rfl⟩, hb⟩

/-- append of a node to such a row. -/
theorem wpL_row (w wr W : World) {ops : Array Oper} {rest : List Oper} {o : Oper} {a : Act} {Q : Exit → Act → World → Prop} (hgd : o.guard = none) (s x : Operand)
    (ho : o.op = .call { callee := .builtin .append, args := #[s, x], argTypes := #[24, 24] }) (v : Value) (L : List Tk) (hs : a.eval s = v) (hrow : RowOf w wr v L) (hB : Below wr.heap.size wr W)
    (t : Tk) (a1 : Option Addr) (c1 g nA : Nat) (hx : a.eval x = .slice (some ⟨g, 0, none⟩) 1 1) (hnA : t.attrs.length = nA) (hg : W.heap[g]? = some (.cells #[.int .i64 t.kind, .string t.name, .slice a1 nA c1, .string t.text] 33 (0, 0))) (hA : OwnAts W wr.heap.size a1 t.attrs) (hn : L.length ≤ 1048576)
    (h : ∀ v' w', RowOf w w' v' (L ++ [t]) → wpList Tryz.prog ops Q rest (a.put o.dst v') w') : wpList Tryz.prog ops Q (o :: rest) a W := by
  obtain ⟨es, a8, c8, rfl, hr, hm, hl⟩ := hrow.open
  subst hnA
  refine wpL_node W hgd s x ho w.heap.size _ es hs wr hr hrow.bel.size hB t a1 c1 g hx hg hA (by omega) (fun a' c' w' h1 h2 => h _ w' (RowOf.more hm h1 ((hrow.bel.trans (hB.mono hrow.bel.size)).trans h2)))

set_option maxRecDepth 4000 in
set_option maxHeartbeats 4000000 in
theorem cCopyT (a : Option Addr) (cap : Nat) (ts : List Tk) (w : World) (hR : TkRow w a ts) (hn : ts.length ≤ 1048576) (hz : TksSz 1048576 ts) :
    Calls Tryz.prog 53 #[.slice a ts.length cap] w fun e w' => ∃ v, e = .returned v ∧ RowOf w w' v ts := by
  have HR := hid hR
  have HZ := hid hz
  have HB0 := hid ((Below.refl w.heap.size w).alloc (Nat.le_refl _) (.cells #[] 33))
  have M0 := hid (heap_alloc_new w (.cells #[] 33))
  clear hR hz
  obtain ⟨n, hnn⟩ : ∃ n, ts.length = n := ⟨_, rfl⟩
  have HN := hid hnn
  rw [hnn] at hn ⊢
  clear hnn
  go_enter Tryz.func53, Tryz.ntmps53
  go_wp2_with fail
  go_loopw [3, 4] (fun v k wr => ∃ i : Nat, k = .int .i64 (i : Int) ∧ i ≤ n ∧ Hid (RowOf w wr v (ts.take i))) (fun _ k _ => n - (intOf k).toNat)
  case atStart => exact ⟨0, rfl, Nat.zero_le _, by rw [List.take_zero]; exact RowOf.start HB0.out (Nat.le_refl _) M0.out⟩
  case round =>
    clear HB0 M0
    obtain ⟨i, rfl, hi, HX⟩ := hrel
    by_cases hlt : i < n
    · have his : i < ts.length := by rw [HN.out]; exact hlt
      have hin : (i : Int) < (n : Int) := by omega
      have HTS := hid (take_snocN his)
      have HLT := hid (show (ts.take i).length ≤ 1048576 by rw [List.length_take]; omega)
      have HZT := hid (HZ.out _ (List.getElem_mem his))
      obtain ⟨b, o, aa, ca, e', hb, q0, q1, q2, q3, hA⟩ := (HR.out.below HX.out.bel) i his
      subst e'
      have HAT := hid hA
      obtain ⟨t, ht⟩ : ∃ t, ts[i] = t := ⟨_, rfl⟩
      rw [ht] at q0 q1 q2 q3 HAT HZT HTS
      clear ht hA
      obtain ⟨nA, hnA⟩ : ∃ nA, t.attrs.length = nA := ⟨_, rfl⟩
      have HNA := hid hnA
      rw [hnA] at q2
      clear hnA
      have HL1 := hid ((Below.refl wr.heap.size wr).alloc (Nat.le_refl _) (.cells #[.int .i64 t.kind, .string t.name, .slice aa nA ca, .string t.text] 33))
      have M1 := hid (heap_alloc_new wr (.cells #[.int .i64 t.kind, .string t.name, .slice aa nA ca, .string t.text] 33))
      have CC := hid (fun wx (h : AtRow wx aa t.attrs) => cCopyS aa ca t.attrs wx h HZT.out.2.1)
      rw [HNA.out] at CC
      go_wp2_with fail
      refine (CC.out _ (HAT.out.below HL1.out)).mono ?_
      rintro e w2 ⟨a1, c1, rfl, ha1, hb2⟩
      have HA1 := hid (show OwnAts w2 (wr.heap.size + 1) a1 t.attrs by simpa using ha1)
      have HL2 := hid (bb HL1.out hb2)
      have M2 := hid (blk_below M1.out hb2)
      obtain ⟨⟨x0, x1, x2, x3⟩, f0, f1, f2, f3⟩ := box4 M2.out
      clear ha1 hb2 CC HL1 M1 q0 q1 q2 q3 hb
      have HS3 := hid (HL2.out.setCell (p := ⟨wr.heap.size, 2, none⟩) (Nat.le_refl _) (.slice a1 nA c1))
      have HA3 := hid (own_lift (own_setG HA1.out (p := ⟨wr.heap.size, 2, none⟩) (Nat.lt_succ_self _) (.slice a1 nA c1)) (Nat.le_succ _))
      have M3 := hid (box_set M2.out 2 (.slice a1 nA c1))
      obtain ⟨w3, hw3⟩ : ∃ w3, w2.setCell ⟨wr.heap.size, 2, none⟩ (.slice a1 nA c1) = w3 := ⟨_, rfl⟩
      rw [hw3] at HS3 HA3 M3
      obtain ⟨⟨y0, y1, y2, y3⟩, _⟩ := box4 M3.out
      have HM4 := hid (heap_alloc_new w3 (.cells #[.int .i64 t.kind, .string t.name, .slice a1 nA c1, .string t.text] 33))
      have HB4 := hid (HS3.out.alloc HS3.out.size (.cells #[.int .i64 t.kind, .string t.name, .slice a1 nA c1, .string t.text] 33))
      have HA4 := hid (HA3.out.below ((Below.refl _ _).alloc (Nat.le_refl _) (.cells #[.int .i64 t.kind, .string t.name, .slice a1 nA c1, .string t.text] 33)))
      go_wp2_with (at_builtin; refine wpL_row w wr _ rfl _ _ rfl _ (ts.take i) rfl HX.out HB4.out t a1 c1 w3.heap.size nA rfl HNA.out HM4.out HA4.out HLT.out ?_)
      intro v5 w5 hr5
      have HR5 := hid hr5
      rw [← HTS.out] at HR5
      clear hr5 x0 x1 x2 x3 y0 y1 y2 y3 hw3
      go_wp2_with fail
      go_roundw
      case rel => exact ⟨i + 1, by go_num, by omega, HR5.out⟩
      case measure => simp [intOf]; omega
    · have hie : i = n := by omega
      subst hie
      have HY := hid (show RowOf w wr u3 ts by
        have h := HX.out
        rw [List.take_of_length_le (by rw [HN.out]; exact Nat.le_refl _)] at h
        exact h)
      clear HX
      go_wp2_with fail
      go_ret
      exact ⟨_, rfl, HY.out⟩

end Go.Proofs.YtmghipjpgoghlaaGreat

namespace Go.Proofs.YtmghipjpgoghlaaGreat
open Go.RowKit
set_option linter.unusedVariables false
set_option linter.unusedSimpArgs false

/-- A node in a box, its attrs made anew. -/
structure Bx (wr W : World) (t : Tk) (nA : Nat) (a1 : Option Addr) (c1 : Nat) : Prop where
  bel : Below wr.heap.size wr W
  box : W.heap[wr.heap.size]? = some (.cells #[.int .i64 t.kind, .string t.name, .slice a1 nA c1, .string t.text] 33 (0, 0))
  own : OwnAts W (wr.heap.size + 1) a1 t.attrs

theorem Bx.made {wr w2 : World} {t : Tk} {nA c1 ca : Nat} {aa a1 : Option Addr} (hb : Below (wr.heap.size + 1) (wr.alloc (.cells #[.int .i64 t.kind, .string t.name, .slice aa nA ca, .string t.text] 33)) w2) (hA : OwnAts w2 (wr.heap.size + 1) a1 t.attrs) :
    Bx wr (w2.setCell ⟨wr.heap.size, 2, none⟩ (.slice a1 nA c1)) t nA a1 c1 := by
  have h0 := (Below.refl wr.heap.size wr).alloc (Nat.le_refl _) (.cells #[.int .i64 t.kind, .string t.name, .slice aa nA ca, .string t.text] 33)
  have m0 := heap_alloc_new wr (.cells #[.int .i64 t.kind, .string t.name, .slice aa nA ca, .string t.text] 33)
  refine ⟨(h0.trans (hb.mono (Nat.le_succ _))).setCell (p := ⟨wr.heap.size, 2, none⟩) (Nat.le_refl _) _, ?_, own_setG hA (p := ⟨wr.heap.size, 2, none⟩) (Nat.lt_succ_self _) _⟩
  exact box_set ((hb.block _ (Nat.lt_succ_self _)).trans m0) 2 (.slice a1 nA c1)

theorem Bx.kind {wr W : World} {t : Tk} {nA c1 : Nat} {a1 : Option Addr} (h : Bx wr W t nA a1 c1) (k : Int) : Bx wr (W.setCell ⟨wr.heap.size, 0, none⟩ (.int .i64 k)) (shK k t) nA a1 c1 :=
  ⟨h.bel.setCell (p := ⟨wr.heap.size, 0, none⟩) (Nat.le_refl _) _, box_set h.box 0 (.int .i64 k), own_setG h.own (p := ⟨wr.heap.size, 0, none⟩) (Nat.lt_succ_self _) _⟩

theorem wpL_bx (w wr W0 : World) {ops : Array Oper} {rest : List Oper} {o : Oper} {a : Act} {Q : Exit → Act → World → Prop} (hgd : o.guard = none) (s x : Operand)
    (ho : o.op = .call { callee := .builtin .append, args := #[s, x], argTypes := #[24, 24] }) (v : Value) (L : List Tk) (hs : a.eval s = v) (hrow : RowOf w wr v L)
    (t : Tk) (a1 : Option Addr) (c1 nA : Nat) (hx : a.eval x = .slice (some ⟨W0.heap.size, 0, none⟩) 1 1) (hnA : t.attrs.length = nA) (hbx : Bx wr W0 t nA a1 c1) (hn : L.length ≤ 1048576)
    (h : ∀ v' w', RowOf w w' v' (L ++ [t]) → wpList Tryz.prog ops Q rest (a.put o.dst v') w') : wpList Tryz.prog ops Q (o :: rest) a (W0.alloc (.cells #[.int .i64 t.kind, .string t.name, .slice a1 nA c1, .string t.text] 33)) :=
  wpL_row w wr _ hgd s x ho v L hs hrow (hbx.bel.alloc hbx.bel.size _) t a1 c1 W0.heap.size nA hx hnA (heap_alloc_new _ _) (own_lift (hbx.own.below ((Below.refl _ _).alloc (Nat.le_refl _) _)) (Nat.le_succ _)) hn h

theorem seg_of {ts : List Tk} {i : Nat} (h : i < ts.length) : ts[i]? = some ts[i] := List.getElem?_eq_getElem h

set_option maxRecDepth 4000 in
set_option maxHeartbeats 4000000 in
theorem cBranchL (a : Option Addr) (cap : Nat) (ts : List Tk) (k : Nat) (w : World) (hR : TkRow w a ts) (hT : TreeP ts) (hk : k < ts.length) (hn : ts.length ≤ 1048576) (hz : TksSz 1048576 ts) :
    Calls Tryz.prog 55 #[.slice a ts.length cap, .int .i64 (k : Int)] w fun e w' => ∃ v, e = .returned v ∧ RowOf w w' v (branchL ts k) := by
  have HR := hid hR
  have HZ := hid hz
  have HT := hid hT
  have h50 : ts.length ≤ 50 := hT.2.1
  have HB0 := hid ((Below.refl w.heap.size w).alloc (Nat.le_refl _) (.cells #[] 33))
  have M0 := hid (heap_alloc_new w (.cells #[] 33))
  have CE := hid (fun wx (h : TkRow wx a ts) => cEndS a cap ts k wx h hk hn)
  have hE := endN_le hk
  obtain ⟨E, hEE⟩ : ∃ E, endN ts k = E := ⟨_, rfl⟩
  have HBR := hid (show branchL ts k = segN (brF k) ts k (E - k) by unfold branchL; rw [hEE])
  rw [hEE] at CE hE
  rw [HBR.out]
  obtain ⟨n, hnn⟩ : ∃ n, ts.length = n := ⟨_, rfl⟩
  have HN := hid hnn
  rw [hnn] at hn hk hE CE h50 ⊢
  clear hR hz hT hEE hnn HBR
  go_enter Tryz.func55, Tryz.ntmps55
  go_wp2_with fail
  go_loopw [5, 6] (fun v i wr => ∃ m : Nat, i = .int .i64 ((k + m : Nat) : Int) ∧ k + m ≤ E ∧ Hid (RowOf w wr v (segN (brF k) ts k m))) (fun _ i _ => E - (intOf i).toNat)
  case atStart => exact ⟨0, rfl, by omega, RowOf.start HB0.out (Nat.le_refl _) M0.out⟩
  case round =>
    clear HB0 M0
    obtain ⟨m, rfl, hm, HX⟩ := hrel
    obtain ⟨i, hi⟩ : ∃ i, k + m = i := ⟨_, rfl⟩
    have HI := hid hi
    rw [hi] at hm ⊢
    by_cases hlt : i < E
    · have his : i < ts.length := by rw [HN.out]; omega
      have hin : (i : Int) < (n : Int) := by omega
      have hiE : (i : Int) < (E : Int) := by omega
      have HTS := hid (segN_next (f := brF k) (ts := ts) (k := k) (m := m) (t := ts[i]) (by rw [hi]; exact seg_of his))
      rw [hi] at HTS
      have HLT := hid (show (segN (brF k) ts k m).length ≤ 1048576 by rw [segN_len m (by rw [hi]; omega)]; omega)
      have HZT := hid (HZ.out _ (List.getElem_mem his))
      have hkb := tree_kind HT.out (seg_of his)
      obtain ⟨b, o, aa, ca, e', hb, q0, q1, q2, q3, hA⟩ := (HR.out.below HX.out.bel) i his
      subst e'
      have HRW := hid (HR.out.below HX.out.bel)
      have HAT := hid hA
      obtain ⟨t, ht⟩ : ∃ t, ts[i] = t := ⟨_, rfl⟩
      rw [ht] at q0 q1 q2 q3 HAT HZT HTS hkb
      clear ht hA
      obtain ⟨nA, hnA⟩ : ∃ nA, t.attrs.length = nA := ⟨_, rfl⟩
      have HNA := hid hnA
      rw [hnA] at q2
      clear hnA
      have HL1 := hid ((Below.refl wr.heap.size wr).alloc (Nat.le_refl _) (.cells #[.int .i64 t.kind, .string t.name, .slice aa nA ca, .string t.text] 33))
      have CC := hid (fun wx (h : AtRow wx aa t.attrs) => cCopyS aa ca t.attrs wx h HZT.out.2.1)
      rw [HNA.out] at CC
      obtain ⟨K, hK⟩ : ∃ K, t.kind = K := ⟨_, rfl⟩
      have HK := hid hK
      rw [hK] at q0 hkb HL1
      obtain ⟨hk1, hk2⟩ := hkb
      clear hK hi
      go_wp2_with fail
      refine (CE.out _ HRW.out).mono ?_
      rintro e w1 ⟨rfl, rfl⟩
      go_wp2_with fail
      refine (CC.out _ (HAT.out.below HL1.out)).mono ?_
      rintro e w2 ⟨a1, c1, rfl, ha1, hb2⟩
      have HBX := hid (Bx.made (c1 := c1) (t := t) (nA := nA) (aa := aa) (ca := ca) (a1 := a1) (w2 := w2) (by rw [HK.out]; simpa using hb2) (by simpa using ha1))
      have M2 := hid (blk_below (heap_alloc_new _ _) hb2)
      obtain ⟨⟨x0, x1, x2, x3⟩, f0, f1, f2, f3⟩ := box4 M2.out
      clear ha1 hb2 CC HL1 q0 q1 q2 q3 hb M2
      obtain ⟨w3, hw3⟩ : ∃ w3, w2.setCell ⟨w1.heap.size, 2, none⟩ (.slice a1 nA c1) = w3 := ⟨_, rfl⟩
      rw [hw3] at HBX
      obtain ⟨⟨y0, y1, y2, y3⟩, g0, g1, g2, g3⟩ := box4 HBX.out.box
      rw [HK.out] at y0
      have HBX4 := hid (HBX.out.kind (K - (k : Int)))
      obtain ⟨w4, hw4⟩ : ∃ w4, w3.setCell ⟨w1.heap.size, 0, none⟩ (.int .i64 (K - (k : Int))) = w4 := ⟨_, rfl⟩
      rw [hw4] at HBX4
      obtain ⟨⟨z0, z1, z2, z3⟩, h0, h1, h2, h3⟩ := box4 HBX4.out.box
      by_cases hm0 : m = 0
      · have hik : i = k := by rw [← HI.out, hm0]; rfl
        have HBX5 := hid (HBX4.out.kind (-1))
        obtain ⟨w5, hw5⟩ : ∃ w5, w4.setCell ⟨w1.heap.size, 0, none⟩ (.int .i64 (-1)) = w5 := ⟨_, rfl⟩
        rw [hw5] at HBX5
        obtain ⟨⟨v0, v1, v2, v3⟩, _⟩ := box4 HBX5.out.box
        have HFN := hid (show shK (-1) (shK (K - (k : Int)) t) = shK (brF k i t) t by unfold brF; rw [if_pos hik]; rfl)
        have hqq : ((i : Int) == (k : Int)) = true := by simp; omega
        clear hik hm0
        go_wp2_with (at_builtin; refine wpL_bx w w1 w5 rfl _ _ rfl u5 (segN (brF k) ts k m) rfl HX.out (shK (-1) (shK (K - (k : Int)) t)) a1 c1 nA rfl HNA.out HBX5.out HLT.out ?_)
        intro v6 w6 hr6
        have HR6 := hid hr6
        rw [HFN.out, ← HTS.out] at HR6
        clear hr6 x0 x1 x2 x3 y0 y1 y2 y3 z0 z1 z2 z3 v0 v1 v2 v3 hw3 hw4 hw5
        go_wp2_with fail
        go_roundw
        case rel => exact ⟨m + 1, by rw [← HI.out]; go_num, by have := HI.out; omega, HR6.out⟩
        case measure => simp [intOf]; omega
      · have hik : ¬ i = k := by have := HI.out; omega
        have HFN := hid (show shK (K - (k : Int)) t = shK (brF k i t) t by unfold brF; rw [if_neg hik, HK.out])
        have hqq : ((i : Int) == (k : Int)) = false := by simp; omega
        clear hik hm0
        go_wp2_with (at_builtin; refine wpL_bx w w1 w4 rfl _ _ rfl u5 (segN (brF k) ts k m) rfl HX.out (shK (K - (k : Int)) t) a1 c1 nA rfl HNA.out HBX4.out HLT.out ?_)
        intro v6 w6 hr6
        have HR6 := hid hr6
        rw [HFN.out, ← HTS.out] at HR6
        clear hr6 x0 x1 x2 x3 y0 y1 y2 y3 z0 z1 z2 z3 hw3 hw4
        go_wp2_with fail
        go_roundw
        case rel => exact ⟨m + 1, by rw [← HI.out]; go_num, by have := HI.out; omega, HR6.out⟩
        case measure => simp [intOf]; omega
    · have hie : i = E := by omega
      have HRW := hid (HR.out.below HX.out.bel)
      have HY := hid (show RowOf w wr u5 (segN (brF k) ts k (E - k)) by
        have h := HX.out
        rw [show E - k = m by omega]
        exact h)
      have hiE : ¬ (i : Int) < (E : Int) := by omega
      clear HX hie
      go_wp2_with fail
      refine (CE.out _ HRW.out).mono ?_
      rintro e w1 ⟨rfl, rfl⟩
      go_wp2_with fail
      go_ret
      exact ⟨_, rfl, HY.out⟩

/-- A tree that is answered, in memory of its own, and whether it is what was asked for. -/
def TreeAns (w : World) (R : List Tk) (b : Bool) (e : Ending) (w' : World) : Prop := ∃ v, e = .returned (.tuple #[v, .bool b]) ∧ RowOf w w' v R

theorem TreeAns.none {w wr : World} (hb : Below w.heap.size w wr) : TreeAns w [] false (.returned (.tuple #[.slice (some ⟨wr.heap.size, 0, none⟩) 0 0, .bool false])) (wr.alloc (.cells #[] 33)) :=
  ⟨_, rfl, RowOf.start (hb.alloc hb.size _) hb.size (heap_alloc_new _ _)⟩

noncomputable def branchI (ts : List Tk) (x : Int) : List Tk := if elemB ts x then branchL ts x.toNat else []

theorem RowOf.later {w w1 w' : World} {v : Value} {L : List Tk} (hb : Below w.heap.size w w1) (h : RowOf w1 w' v L) : RowOf w w' v L := by
  obtain ⟨es, a, c, e1, e2, e3⟩ := h.row
  exact ⟨⟨es, a, c, e1, e2.mono hb.size, e3⟩, bb hb h.bel⟩

set_option maxHeartbeats 2000000 in
theorem cBranchS (a : Option Addr) (cap : Nat) (ts : List Tk) (x : Int) (w : World) (hR : TkRow w a ts) (hn : ts.length ≤ 1048576) (hz : TksSz 1048576 ts) :
    Calls Tryz.prog 24 #[.slice a ts.length cap, .int .i64 x] w (TreeAns w (branchI ts x) (elemB ts x)) := by
  have C := hid (c_spec_l9Element a cap ts x w hR hn hz)
  cases hh : elemB ts x with
  | false =>
    have HE := hid (show branchI ts x = [] by unfold branchI; rw [hh]; rfl)
    rw [HE.out]
    rw [hh] at C
    clear hh HE hR hz
    generalize ts.length = n at *
    go_enter Tryz.func24, Tryz.ntmps24
    go_wp2_with fail
    refine C.out.mono ?_
    rintro e w1 ⟨rfl, hb1⟩
    have HB1 := hid hb1
    clear hb1 C
    go_wp2_with fail
    go_ret2
    exact TreeAns.none HB1.out
  | true =>
    obtain ⟨hT, k, rfl, hk⟩ := elemB_t hh
    have HE := hid (show branchI ts (k : Int) = branchL ts k by unfold branchI; rw [hh]; rfl)
    rw [HE.out]
    rw [hh] at C
    have CM := hid (fun wx (hb : Below w.heap.size w wx) => cBranchL a cap ts k wx (hR.below hb) hT hk hn hz)
    clear hh HE hR hz hT hk
    generalize branchL ts k = L at *
    generalize ts.length = n at *
    go_enter Tryz.func24, Tryz.ntmps24
    go_wp2_with fail
    refine C.out.mono ?_
    rintro e w1 ⟨rfl, hb1⟩
    have CM1 := hid (CM.out _ hb1)
    have HB1 := hid hb1
    clear hb1 C CM
    go_wp2_with fail
    refine CM1.out.mono ?_
    rintro e w2 ⟨v, rfl, hr2⟩
    have HR2 := hid (RowOf.later HB1.out hr2)
    clear hr2 CM1
    go_wp2_with fail
    go_ret2
    exact ⟨_, rfl, HR2.out⟩

end Go.Proofs.YtmghipjpgoghlaaGreat
