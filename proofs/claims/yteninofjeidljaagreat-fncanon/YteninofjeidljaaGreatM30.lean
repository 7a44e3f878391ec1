/- A tree of short texts without a branch is a tree, and its names stay right (mathematics alone). What is left out elsewhere changes nothing here (mathematics alone). Nodes copied one by one: contracts of the specification's l8Copy, l10Branch and Branch. Contracts of the specification's l10Branch and Branch. -/
import Derived.Test.YteninofjeidljaaGreatM29
import Derived.Test.YteninofjeidljaaGreatM25
import Derived.Test.YteninofjeidljaaGreatM24
import Derived.Test.YteninofjeidljaaGreatM10
import Derived.Test.YteninofjeidljaaGreatM13
namespace Go.Proofs.YteninofjeidljaaGreat

open Go.RowKit

set_option linter.unusedVariables false

section

variable {ts : List Tk} {a : Nat} {t u : Tk}

theorem node_right (hT : TreeP ts) {x : Nat} (hx : x < ts.length) : nodeB ts[x] = true := by
  obtain ⟨⟨_, h⟩, _⟩ := hT.2.2.2.2 x hx
  exact h

theorem gap0_out (hT : TreeP ts) (ha : a < ts.length) (ha1 : 1 ≤ a) : Gap0 ts (outC ts a (endN ts a) ts.length) a (endN ts a) := by
  have hle := endN_le ha
  have hget : ∀ x, x < ts.length → stays a (endN ts a) x → ∃ t : Tk, nodeAt ts x = t ∧ (outC ts a (endN ts a) ts.length)[gapF a (endN ts a) x]? = some (shK (cutF a (endN ts a) t) t) := fun x hx hs =>
    ⟨ts[x], nodeAt_at hx, outC_get hle.1 hle.2 hx hs (fun h => by have := low_kind hT hx; omega)⟩
  refine ⟨hT, hle.1, hle.2, ha1, ?_, fun x hx hs => ?_, fun x hx hs => ?_, fun x hx hs => ?_, fun hn => ?_⟩
  · rw [outC_len (Nat.le_of_lt hle.1) hle.2 (Nat.le_refl _)]
    omega
  · obtain ⟨t, e1, e2⟩ := hget x hx hs
    rw [nodeAt_some e2, e1]
    rfl
  · obtain ⟨t, e1, e2⟩ := hget x hx hs
    rw [parI_some e2]
    have e3 : parI ts x = t.kind := by rw [parI_at hx, ← e1, nodeAt_at hx]
    rw [e3]
    rfl
  · rcases hs with hs | hs
    · left
      have := low_kind hT hx
      omega
    · exact out_kind hT ha hs hx
  · obtain ⟨p, e1, _, e2⟩ := up_first hT ha ha1 hn
    exact ⟨p, e1, e2⟩

theorem tree_out (hT : TreeP ts) (ha : a < ts.length) (ha1 : 1 ≤ a) (hs : sideB ts a (endN ts a) = false) : TreeP (outC ts a (endN ts a) ts.length) := by
  have g := gap0_out hT ha ha1
  have hle := endN_le ha
  refine g.treeU (fun m hm => ?_) (fun m ht => ?_)
  · obtain ⟨i, hi, hst, rfl⟩ := g.from hm
    rw [nodeAt_some (outC_get hle.1 hle.2 hi hst (fun h => by have := low_kind hT hi; omega))]
    have := node_right hT hi
    unfold nodeB at this ⊢
    exact this
  · obtain ⟨i, hi, rfl, _, _, n1, n2, ek⟩ := g.twin ht
    have h1 : ts[a - 1]? = some ts[a - 1] := List.getElem?_eq_getElem (by omega)
    have h2 : ts[endN ts a]? = some ts[endN ts a] := List.getElem?_eq_getElem hi
    rw [nodeAt_at (show a - 1 < ts.length by omega)] at n1
    rw [nodeAt_at hi] at n2
    rw [parI_at (show a - 1 < ts.length by omega), parI_at hi] at ek
    have hl := low_kind hT hi
    rw [parI_at hi] at hl
    unfold sideB at hs
    rw [h1, h2] at hs
    simp only at hs
    rw [decide_eq_true n2, decide_eq_true n1, decide_eq_true (show ts[a - 1].kind = cutF a (endN ts a) ts[endN ts a] by unfold cutF; rw [if_neg (by omega)]; exact ek)] at hs
    cases hs

theorem gap0_join (hT : TreeP ts) (ha : a < ts.length) (ha1 : 1 ≤ a) (ht : ts[a - 1]? = some t) (hu : ts[endN ts a]? = some u) (hu0 : u.name.size = 0) (hk : t.kind = u.kind) : Gap0 ts (joinC ts a (endN ts a) t u) a (endN ts a + 1) := by
  have hle := endN_le ha
  have hen : endN ts a < ts.length := by
    rcases Nat.lt_or_ge (endN ts a) ts.length with h' | h'
    · exact h'
    · rw [List.getElem?_eq_none h'] at hu; cases hu
  have hget := fun x (hx : x < ts.length) (hs : stays a (endN ts a + 1) x) => joinC_get (t := t) (u := u) ha1 hle.1 hen hx hs
  have htt : ∀ x (hx : x < ts.length), x = a - 1 → ts[x] = t := fun x hx q => by
    subst q
    rw [List.getElem?_eq_getElem hx] at ht
    exact Option.some.inj ht
  refine ⟨hT, by omega, by omega, ha1, joinC_len ha1 hle.1 hen, fun x hx hs => ?_, fun x hx hs => ?_, fun x hx hs => ?_, fun hn => ?_⟩
  · rw [nodeAt_some (hget x hx hs), nodeAt_at hx]
    split
    · rename_i q
      rw [htt x hx q]
    · split <;> rfl
  · rw [parI_some (hget x hx hs), parI_at hx]
    have hl := low_kind hT hx
    rw [parI_at hx] at hl
    split
    · rename_i q
      have h2 := htt x hx q
      rw [h2] at hl ⊢
      rw [if_neg (by omega)]
    · split
      · rw [if_neg (by omega)]
      · show (if ((endN ts a : Nat) : Int) < ts[x].kind then ts[x].kind - (((endN ts a : Nat) : Int) - (a : Int)) - 1 else ts[x].kind) = _
        by_cases q : ((endN ts a : Nat) : Int) < ts[x].kind
        · rw [if_pos q, if_pos (by omega)]; omega
        · rw [if_neg q, if_neg (by omega)]
  · rcases hs with hs | hs
    · left
      have := low_kind hT hx
      omega
    · have h1 := out_kind hT ha (show endN ts a ≤ x by omega) hx
      have h2 := text_leaf hT hx hu hu0
      omega
  · rcases hT.up (endN ts a + 1) hn with h' | ⟨p, hp, ep, hel⟩
    · omega
    have hne := text_leaf hT hn hu hu0
    obtain ⟨q, eq, hqa, _⟩ := up_first hT ha ha1 hen
    obtain ⟨_, c1⟩ := chain_par hT hen eq
    rw [c1] at hp
    have hp2 : p ∈ chainF ts (q + 1) := by
      rcases List.mem_cons.1 hp with h' | h'
      · omega
      · exact h'
    have eq2 : parI ts (a - 1) = (q : Int) := by
      rw [parI_some ht, hk, ← parI_some hu]
      exact eq
    obtain ⟨_, c2⟩ := chain_par hT (show a - 1 < ts.length by omega) eq2
    rw [show a - 1 + 1 = a by omega] at c2
    refine ⟨p, ep.symm, ?_⟩
    rw [c2]
    exact List.mem_cons_of_mem _ hp2

theorem tree_join (hT : TreeP ts) (ha : a < ts.length) (ha1 : 1 ≤ a) (ht : ts[a - 1]? = some t) (hu : ts[endN ts a]? = some u) (ht0 : t.name.size = 0) (hu0 : u.name.size = 0) (hk : t.kind = cutF a (endN ts a) u) (hsz : t.text.size + u.text.size ≤ 60) : TreeP (joinC ts a (endN ts a) t u) := by
  have hle := endN_le ha
  have hen : endN ts a < ts.length := by
    rcases Nat.lt_or_ge (endN ts a) ts.length with h' | h'
    · exact h'
    · rw [List.getElem?_eq_none h'] at hu; cases hu
  have hkk : t.kind = u.kind := by
    have := low_kind hT hen
    rw [parI_some hu] at this
    rw [hk]
    unfold cutF
    rw [if_neg (by omega)]
  have g := gap0_join hT ha ha1 ht hu hu0 hkk
  have et : ts[a - 1]'(by omega) = t := by
    rw [List.getElem?_eq_getElem (by omega)] at ht
    exact Option.some.inj ht
  have eu : ts[endN ts a] = u := by
    rw [List.getElem?_eq_getElem hen] at hu
    exact Option.some.inj hu
  refine g.treeU (fun m hm => ?_) (fun m htw => ?_)
  · obtain ⟨i, hi, hst, rfl⟩ := g.from hm
    rw [nodeAt_some (joinC_get (t := t) (u := u) ha1 hle.1 hen hi hst)]
    split
    · have n1 := node_right hT (show a - 1 < ts.length by omega)
      have n2 := node_right hT hen
      rw [et] at n1
      rw [eu] at n2
      unfold nodeB at n1 n2 ⊢
      rw [if_pos ht0] at n1
      rw [if_pos hu0] at n2
      show (if t.name.size = 0 then decide (t.attrs.length = 0) && textB (t.text ++ u.text) else _) = true
      rw [if_pos ht0]
      unfold textB at n1 n2 ⊢
      simp only [Bool.and_eq_true, decide_eq_true_eq] at n1 n2 ⊢
      refine ⟨n1.1, ?_, ?_, ?_⟩
      · rw [ByteArray.data_append, Array.toList_append]
        have p1 := n1.2.1
        have p2 := n2.2.1
        unfold plainL at p1 p2 ⊢
        rw [List.all_append, p1, p2]
        rfl
      · rw [ByteArray.size_append]; omega
      · rw [ByteArray.size_append]; omega
    · have := node_right hT hi
      split
      · exact this
      · unfold nodeB at this ⊢
        exact this
  · obtain ⟨i, hi, rfl, _, _, n1, n2, ek⟩ := g.twin htw
    refine (hT.2.2.2.2 (endN ts a + 1) hi).2.2.2 ⟨hi, by omega, ?_, ?_, ?_⟩
    · rw [nodeAt_at hi] at n2
      exact n2
    · show (ts[endN ts a + 1 - 1]'(by omega)).name.size = 0
      simp only [Nat.add_sub_cancel]
      rw [eu]
      exact hu0
    · show (ts[endN ts a + 1 - 1]'(by omega)).kind = _
      simp only [Nat.add_sub_cancel]
      rw [eu, ← hkk, ← parI_at hi, ← ek, parI_some ht]

/-- A tree of short texts without a branch is a tree. -/
theorem tree_cut (hT : TreeP ts) (ha : a < ts.length) (ha1 : 1 ≤ a) (hsz : ∀ t ∈ ts, t.text.size ≤ 30) : TreeP (cutL ts a (endN ts a)) := by
  cases hs : sideB ts a (endN ts a) with
  | false =>
    rw [cutL_no hs]
    exact tree_out hT ha ha1 hs
  | true =>
    have hs' := hs
    unfold sideB at hs'
    split at hs'
    · rename_i t u ht hu
      rw [cutL_yes hs ht hu]
      simp only [Bool.and_eq_true, decide_eq_true_eq] at hs'
      have s1 := hsz t (List.mem_of_getElem? ht)
      have s2 := hsz u (List.mem_of_getElem? hu)
      exact tree_join hT ha ha1 ht hu hs'.2.1 hs'.1 hs'.2.2 (by omega)
    · cases hs'

/-- Names stay right where the nodes are kept. -/
theorem names_gap {us : List Tk} {h : Nat} (g : Gap ts us a h) (hN : NamesP ts) : NamesP us := by
  refine ⟨g.tree', fun m t ht => ?_⟩
  have hm : m < us.length := by
    rcases Nat.lt_or_ge m us.length with h' | h'
    · exact h'
    · rw [List.getElem?_eq_none h'] at ht; cases ht
  have hl := g.len
  have hah := g.ah
  have hhn := g.hn
  obtain ⟨i, hi, hs, rfl⟩ : ∃ i, i < ts.length ∧ stays a h i ∧ gapF a h i = m := by
    by_cases q : m < a
    · exact ⟨m, by omega, .inl q, gapF_low q⟩
    · refine ⟨m + (h - a), by omega, .inr (by omega), ?_⟩
      rw [gapF_high hah (by omega)]
      omega
  have en := g.name i hi hs
  have ea := g.attrs i hi hs
  rw [nodeAt_some ht, nodeAt_at hi] at en ea
  have hm2 : ∀ p, meanF us (gapF a h i) p = meanF ts i p := fun p => by
    unfold meanF
    rw [g.kept.out ⟨hi, hs⟩]
  have hk : ∀ x, keyN us (gapF a h i) x = keyN ts i x := fun x => by
    unfold keyN
    rw [hm2]
  rcases hN.2 i ts[i] (List.getElem?_eq_getElem hi) with h' | ⟨h1, h2, h3⟩
  · exact .inl (by rw [en]; exact h')
  · refine .inr ⟨by rw [en, hm2]; exact h1, by rw [en]; exact h2, ?_⟩
    rw [ea]
    refine ⟨fun x hx hc => by rw [hm2]; exact h3.1 x hx hc, ?_⟩
    have e : keysN us (gapF a h i) ts[i].attrs = keysN ts i ts[i].attrs := by
      unfold keysN
      exact List.map_congr_left fun x _ => hk x
    rw [e]
    exact h3.2

theorem names_cut (hN : NamesP ts) (ha : a < ts.length) (ha1 : 1 ≤ a) (hU : TreeP (cutL ts a (endN ts a))) : NamesP (cutL ts a (endN ts a)) := by
  cases hs : sideB ts a (endN ts a) with
  | false =>
    rw [cutL_no hs] at hU ⊢
    exact names_gap (gap_out hN.1 ha ha1 hU) hN
  | true =>
    have hs' := hs
    unfold sideB at hs'
    split at hs'
    · rename_i t u ht hu
      rw [cutL_yes hs ht hu] at hU ⊢
      simp only [Bool.and_eq_true, decide_eq_true_eq] at hs'
      exact names_gap (gap_join hN.1 ha ha1 ht hu hs'.1 hU) hN
    · cases hs'

end

end Go.Proofs.YteninofjeidljaaGreat

namespace Go.Proofs.YteninofjeidljaaGreat

open Go.RowKit

set_option linter.unusedVariables false

theorem canon_far {ts : List Tk} (hT : TreeP ts) {k : Nat} (hk : k < ts.length) {but : Int} (hb : but < (k : Int) ∨ (endN ts k : Int) ≤ but) (f : Nat) (sd : List At) : canonN ts but f k sd = canonN ts (-1) f k sd := by
  have hle := endN_le hk
  have hlen := branchL_len hk
  refine canon_alike (ts := ts) (us := ts) (but := but) (but' := -1) (fun i => i) (fun i => k ≤ i ∧ i < endN ts k) (fun i _ => ⟨rfl, rfl, fun _ => rfl, fun _ => rfl, fun _ p _ => rfl⟩) (fun i hi => ⟨by omega, by show ¬ ((i : Nat) : Int) = -1; omega⟩) (fun i hi => ?_) f k sd ⟨Nat.le_refl _, hle.1⟩
  obtain ⟨j, rfl⟩ : ∃ j, i = k + j := ⟨i - k, by omega⟩
  have hin : ∀ q ∈ kidsN ts (k + j), k ≤ q ∧ q < endN ts k := fun q hq => by
    rw [kids_inner hT hk hi.2] at hq
    obtain ⟨x, hx, rfl⟩ := List.mem_map.1 hq
    have := kidsN_lt hx
    exact ⟨by omega, by omega⟩
  have e : ∀ b : Int, (b < (k : Int) ∨ (endN ts k : Int) ≤ b) → (kidsN ts (k + j)).filter (notB b) = kidsN ts (k + j) := fun b h => List.filter_eq_self.2 fun x hx => by
    have := hin x hx
    unfold notB
    rw [decide_eq_false (by omega)]
    rfl
  refine ⟨_, e but hb, hin, ?_⟩
  rw [e (-1) (.inl (by omega)), List.map_id']

end Go.Proofs.YteninofjeidljaaGreat

namespace Go.Proofs.YteninofjeidljaaGreat

open Go.RowKit

set_option linter.unusedVariables false

set_option linter.unusedSimpArgs false

theorem own_setG {w : World} {B : Nat} {a : Option Addr} {l : List At} (h : OwnAts w B a l) {p : Addr} (hp : p.block < B) (u : Value) : OwnAts (w.setCell p u) B a l := fun hl => by
  obtain ⟨g, o, cu, e1, e2, e3, e4⟩ := h hl
  refine ⟨g, o, cu, e1, e2, ?_, e4⟩
  rw [Below.heap_setCell _ _ _ _ (by omega)]
  exact e3

theorem own_lift {w : World} {B B' : Nat} {a : Option Addr} {l : List At} (h : OwnAts w B' a l) (hB : B ≤ B') : OwnAts w B a l := fun hl => by
  obtain ⟨g, o, cu, e1, e2, e3⟩ := h hl
  exact ⟨g, o, cu, e1, Nat.le_trans hB e2, e3⟩

theorem box_set {w : World} {g : Nat} {cur : Array Value} {T : TypeId} (h : w.heap[g]? = some (.cells cur T (0, 0))) (j : Nat) (v : Value) : (w.setCell ⟨g, j, none⟩ v).heap[g]? = some (.cells (cur.setIfInBounds j v) T (0, 0)) := heap_setCell_same w g j cur T v h

theorem node_cells {w : World} {g : Nat} {t : Tk} {a1 : Option Addr} {c1 : Nat} (h : w.heap[g]? = some (.cells #[.int .i64 t.kind, .string t.name, .slice a1 t.attrs.length c1, .string t.text] 42 (0, 0))) :
    ∀ j u, (Nd.cs [⟨t, a1, c1⟩])[j]? = some u → w.cell? ((⟨g, 0, none⟩ : Addr).add j) = some u := by
  intro j u hj
  rw [add_plainW, Nat.zero_add, Lib.cell_of_heap h]
  rw [Nd.cs_one] at hj
  match j, hj with
  | 0, hj => exact hj
  | 1, hj => exact hj
  | 2, hj => exact hj
  | 3, hj => exact hj

/-- append of a node to a row of one's own, its attrs made since. -/
theorem wpL_node (W : World) {ops : Array Oper} {rest : List Oper} {o : Oper} {a : Act} {Q : Exit → Act → World → Prop} (hgd : o.guard = none) (s x : Operand)
    (ho : o.op = .call { callee := .builtin .append, args := #[s, x], argTypes := #[24, 24] }) (base : Nat) (v : Value) (es : List Nd.E) (hs : a.eval s = v) (wr : World) (hrow : Nd.Row wr base v es) (hb0 : base ≤ wr.heap.size) (hB : Below wr.heap.size wr W)
    (t : Tk) (a1 : Option Addr) (c1 g : Nat) (hx : a.eval x = .slice (some ⟨g, 0, none⟩) 1 1) (hg : W.heap[g]? = some (.cells #[.int .i64 t.kind, .string t.name, .slice a1 t.attrs.length c1, .string t.text] 42 (0, 0))) (hA : OwnAts W wr.heap.size a1 t.attrs) (hn : es.length ≤ 1048576)
    (h : ∀ a' c' w', Nd.Row w' base (.slice a' (es ++ [(⟨t, a1, c1⟩ : Nd.E)]).length c') (es ++ [⟨t, a1, c1⟩]) → Below base W w' → wpList Tryz.prog ops Q rest (a.put o.dst (.slice a' (es ++ [(⟨t, a1, c1⟩ : Nd.E)]).length c')) w') : wpList Tryz.prog ops Q (o :: rest) a W := by
  have hbW : base ≤ W.heap.size := Nat.le_trans hb0 hB.size
  refine Nd.wpL_join W hgd s x ho base v es [⟨t, a1, c1⟩] hs (hrow.below hB) g 1 1 hx rfl (node_cells hg) (fun e he => ?_) (List.pairwise_singleton _ _) (fun e he f hf => ?_) (by show es.length + 1 ≤ _; omega) hbW (fun a' c' w' h1 h2 _ => h a' c' w' h1 h2)
  · rw [List.mem_singleton] at he
    subst he
    refine ⟨own_lift hA hb0, fun g' o' hl e1 e2 => ?_⟩
    obtain ⟨g2, o2, cu, k1, k2, _⟩ := hA hl
    rw [k1] at e1
    cases e1
    have := (hrow.own.lt _ e2).2
    omega
  · rw [List.mem_singleton] at hf
    subst hf
    intro hl hl' g1 o1 g2 o2 e1 e2 e3
    obtain ⟨k, ko, cu, k1, k2, _⟩ := hA hl'
    obtain ⟨m, mo, cm, m1, m2, m3, _⟩ := (hrow.ats e he).1 hl
    rw [k1] at e2
    rw [m1] at e1
    cases e1
    cases e2
    have := lt_of_heap m3
    omega

/-- The row so far is this one. -/
structure RowOf (w wr : World) (v : Value) (L : List Tk) : Prop where
  row : ∃ es a c, v = .slice a es.length c ∧ Nd.Row wr w.heap.size (.slice a es.length c) es ∧ es.map (·.t) = L
  bel : Below w.heap.size w wr

theorem RowOf.open {w wr : World} {v : Value} {L : List Tk} (h : RowOf w wr v L) : ∃ es a c, v = .slice a es.length c ∧ Nd.Row wr w.heap.size (.slice a es.length c) es ∧ es.map (·.t) = L ∧ es.length = L.length := by
  obtain ⟨es, a, c, e1, e2, e3⟩ := h.row
  exact ⟨es, a, c, e1, e2, e3, by rw [← e3, List.length_map]⟩

theorem RowOf.tk {w wr : World} {v : Value} {L : List Tk} (h : RowOf w wr v L) : ∃ a c, v = .slice a L.length c ∧ TkRow wr a L := by
  obtain ⟨es, a, c, rfl, hr, hm, hl⟩ := h.open
  obtain ⟨a2, c2, e, ht⟩ := hr.tkRow
  cases e
  rw [hm] at ht
  exact ⟨a, c, by rw [hl], ht⟩

theorem RowOf.start {w wr : World} (hb : Below w.heap.size w wr) {g : Nat} (hg : w.heap.size ≤ g) (hh : wr.heap[g]? = some (.cells #[] 42 (0, 0))) : RowOf w wr (.slice (some ⟨g, 0, none⟩) 0 0) [] :=
  ⟨⟨[], _, _, rfl, Nd.Row.start _ _ _ hg hh, rfl⟩, hb⟩

theorem RowOf.below {w wr w' : World} {v : Value} {L : List Tk} (h : RowOf w wr v L) (hb : Below wr.heap.size wr w') : RowOf w w' v L := by
  obtain ⟨es, a, c, e1, e2, e3⟩ := h.row
  exact ⟨⟨es, a, c, e1, e2.below hb, e3⟩, bb h.bel hb⟩

theorem RowOf.more {w w' : World} {es : List Nd.E} {a : Option Addr} {c : Nat} {L : List Tk} {t : Tk} {a1 : Option Addr} {c1 : Nat} (hm : es.map (·.t) = L) (h : Nd.Row w' w.heap.size (.slice a (es ++ [(⟨t, a1, c1⟩ : Nd.E)]).length c) (es ++ [⟨t, a1, c1⟩])) (hb : Below w.heap.size w w') : RowOf w w' (.slice a (es ++ [(⟨t, a1, c1⟩ : Nd.E)]).length c) (L ++ [t]) :=
  ⟨⟨_, a, c, rfl, h, by rw [List.map_append, hm]; rfl⟩, hb⟩

/-- append of a node to such a row. -/
theorem wpL_row (w wr W : World) {ops : Array Oper} {rest : List Oper} {o : Oper} {a : Act} {Q : Exit → Act → World → Prop} (hgd : o.guard = none) (s x : Operand)
    (ho : o.op = .call { callee := .builtin .append, args := #[s, x], argTypes := #[24, 24] }) (v : Value) (L : List Tk) (hs : a.eval s = v) (hrow : RowOf w wr v L) (hB : Below wr.heap.size wr W)
    (t : Tk) (a1 : Option Addr) (c1 g nA : Nat) (hx : a.eval x = .slice (some ⟨g, 0, none⟩) 1 1) (hnA : t.attrs.length = nA) (hg : W.heap[g]? = some (.cells #[.int .i64 t.kind, .string t.name, .slice a1 nA c1, .string t.text] 42 (0, 0))) (hA : OwnAts W wr.heap.size a1 t.attrs) (hn : L.length ≤ 1048576)
    (h : ∀ v' w', RowOf w w' v' (L ++ [t]) → wpList Tryz.prog ops Q rest (a.put o.dst v') w') : wpList Tryz.prog ops Q (o :: rest) a W := by
  obtain ⟨es, a8, c8, rfl, hr, hm, hl⟩ := hrow.open
  subst hnA
  refine wpL_node W hgd s x ho w.heap.size _ es hs wr hr hrow.bel.size hB t a1 c1 g hx hg hA (by omega) (fun a' c' w' h1 h2 => h _ w' (RowOf.more hm h1 ((hrow.bel.trans (hB.mono hrow.bel.size)).trans h2)))

set_option maxRecDepth 4000 in
set_option maxHeartbeats 4000000 in
theorem cCopyT (a : Option Addr) (cap : Nat) (ts : List Tk) (w : World) (hR : TkRow w a ts) (hn : ts.length ≤ 1048576) (hz : TksSz 1048576 ts) :
    Calls Tryz.prog 84 #[.slice a ts.length cap] w fun e w' => ∃ v, e = .returned v ∧ RowOf w w' v ts := by
  have HR := hid hR
  have HZ := hid hz
  have HB0 := hid ((Below.refl w.heap.size w).alloc (Nat.le_refl _) (.cells #[] 42))
  have M0 := hid (heap_alloc_new w (.cells #[] 42))
  clear hR hz
  obtain ⟨n, hnn⟩ : ∃ n, ts.length = n := ⟨_, rfl⟩
  have HN := hid hnn
  rw [hnn] at hn ⊢
  clear hnn
  go_enter Tryz.func84, Tryz.ntmps84
  go_wp2_with fail
  go_loopw [3, 4] (fun v k wr => ∃ i : Nat, k = .int .i64 (i : Int) ∧ i ≤ n ∧ Hid (RowOf w wr v (ts.take i))) (fun _ k _ => n - (intOf k).toNat)
  case atStart => exact ⟨0, rfl, Nat.zero_le _, by rw [List.take_zero]; exact RowOf.start HB0.out (Nat.le_refl _) M0.out⟩
  case round =>
    clear HB0 M0
    obtain ⟨i, rfl, hi, HX⟩ := hrel
    by_cases hlt : i < n
    · have his : i < ts.length := by rw [HN.out]; exact hlt
      have hin : (i : Int) < (n : Int) := by omega
      have HTS := hid (take_snocN his)
      have HLT := hid (show (ts.take i).length ≤ 1048576 by rw [List.length_take]; omega)
      have HZT := hid (HZ.out _ (List.getElem_mem his))
      obtain ⟨b, o, aa, ca, e', hb, q0, q1, q2, q3, hA⟩ := (HR.out.below HX.out.bel) i his
      subst e'
      have HAT := hid hA
      obtain ⟨t, ht⟩ : ∃ t, ts[i] = t := ⟨_, rfl⟩
      rw [ht] at q0 q1 q2 q3 HAT HZT HTS
      clear ht hA
      obtain ⟨nA, hnA⟩ : ∃ nA, t.attrs.length = nA := ⟨_, rfl⟩
      have HNA := hid hnA
      rw [hnA] at q2
      clear hnA
      have HL1 := hid ((Below.refl wr.heap.size wr).alloc (Nat.le_refl _) (.cells #[.int .i64 t.kind, .string t.name, .slice aa nA ca, .string t.text] 42))
      have M1 := hid (heap_alloc_new wr (.cells #[.int .i64 t.kind, .string t.name, .slice aa nA ca, .string t.text] 42))
      have CC := hid (fun wx (h : AtRow wx aa t.attrs) => cCopyS aa ca t.attrs wx h HZT.out.2.1)
      rw [HNA.out] at CC
      go_wp2_with fail
      refine (CC.out _ (HAT.out.below HL1.out)).mono ?_
      rintro e w2 ⟨a1, c1, rfl, ha1, hb2⟩
      have HA1 := hid (show OwnAts w2 (wr.heap.size + 1) a1 t.attrs by simpa using ha1)
      have HL2 := hid (bb HL1.out hb2)
      have M2 := hid (blk_below M1.out hb2)
      obtain ⟨⟨x0, x1, x2, x3⟩, f0, f1, f2, f3⟩ := box4 M2.out
      clear ha1 hb2 CC HL1 M1 q0 q1 q2 q3 hb
      have HS3 := hid (HL2.out.setCell (p := ⟨wr.heap.size, 2, none⟩) (Nat.le_refl _) (.slice a1 nA c1))
      have HA3 := hid (own_lift (own_setG HA1.out (p := ⟨wr.heap.size, 2, none⟩) (Nat.lt_succ_self _) (.slice a1 nA c1)) (Nat.le_succ _))
      have M3 := hid (box_set M2.out 2 (.slice a1 nA c1))
      obtain ⟨w3, hw3⟩ : ∃ w3, w2.setCell ⟨wr.heap.size, 2, none⟩ (.slice a1 nA c1) = w3 := ⟨_, rfl⟩
      rw [hw3] at HS3 HA3 M3
      obtain ⟨⟨y0, y1, y2, y3⟩, _⟩ := box4 M3.out
      have HM4 := hid (heap_alloc_new w3 (.cells #[.int .i64 t.kind, .string t.name, .slice a1 nA c1, .string t.text] 42))
      have HB4 := hid (HS3.out.alloc HS3.out.size (.cells #[.int .i64 t.kind, .string t.name, .slice a1 nA c1, .string t.text] 42))
      have HA4 := hid (HA3.out.below ((Below.refl _ _).alloc (Nat.le_refl _) (.cells #[.int .i64 t.kind, .string t.name, .slice a1 nA c1, .string t.text] 42)))
      go_wp2_with (at_builtin; refine wpL_row w wr _ rfl _ _ rfl _ (ts.take i) rfl HX.out HB4.out t a1 c1 w3.heap.size nA rfl HNA.out HM4.out HA4.out HLT.out ?_)
      intro v5 w5 hr5
      have HR5 := hid hr5
      rw [← HTS.out] at HR5
      clear hr5 x0 x1 x2 x3 y0 y1 y2 y3 hw3
      go_wp2_with fail
      go_roundw
      case rel => exact ⟨i + 1, by go_num, by omega, HR5.out⟩
      case measure => simp [intOf]; omega
    · have hie : i = n := by omega
      subst hie
      have HY := hid (show RowOf w wr u3 ts by
        have h := HX.out
        rw [List.take_of_length_le (by rw [HN.out]; exact Nat.le_refl _)] at h
        exact h)
      clear HX
      go_wp2_with fail
      go_ret
      exact ⟨_, rfl, HY.out⟩

end Go.Proofs.YteninofjeidljaaGreat

namespace Go.Proofs.YteninofjeidljaaGreat

open Go.RowKit

set_option linter.unusedVariables false

set_option linter.unusedSimpArgs false

/-- A node in a box, its attrs made anew. -/
structure Bx (wr W : World) (t : Tk) (nA : Nat) (a1 : Option Addr) (c1 : Nat) : Prop where
  bel : Below wr.heap.size wr W
  box : W.heap[wr.heap.size]? = some (.cells #[.int .i64 t.kind, .string t.name, .slice a1 nA c1, .string t.text] 42 (0, 0))
  own : OwnAts W (wr.heap.size + 1) a1 t.attrs

theorem Bx.made {wr w2 : World} {t : Tk} {nA c1 ca : Nat} {aa a1 : Option Addr} (hb : Below (wr.heap.size + 1) (wr.alloc (.cells #[.int .i64 t.kind, .string t.name, .slice aa nA ca, .string t.text] 42)) w2) (hA : OwnAts w2 (wr.heap.size + 1) a1 t.attrs) :
    Bx wr (w2.setCell ⟨wr.heap.size, 2, none⟩ (.slice a1 nA c1)) t nA a1 c1 := by
  have h0 := (Below.refl wr.heap.size wr).alloc (Nat.le_refl _) (.cells #[.int .i64 t.kind, .string t.name, .slice aa nA ca, .string t.text] 42)
  have m0 := heap_alloc_new wr (.cells #[.int .i64 t.kind, .string t.name, .slice aa nA ca, .string t.text] 42)
  refine ⟨(h0.trans (hb.mono (Nat.le_succ _))).setCell (p := ⟨wr.heap.size, 2, none⟩) (Nat.le_refl _) _, ?_, own_setG hA (p := ⟨wr.heap.size, 2, none⟩) (Nat.lt_succ_self _) _⟩
  exact box_set ((hb.block _ (Nat.lt_succ_self _)).trans m0) 2 (.slice a1 nA c1)

theorem Bx.kind {wr W : World} {t : Tk} {nA c1 : Nat} {a1 : Option Addr} (h : Bx wr W t nA a1 c1) (k : Int) : Bx wr (W.setCell ⟨wr.heap.size, 0, none⟩ (.int .i64 k)) (shK k t) nA a1 c1 :=
  ⟨h.bel.setCell (p := ⟨wr.heap.size, 0, none⟩) (Nat.le_refl _) _, box_set h.box 0 (.int .i64 k), own_setG h.own (p := ⟨wr.heap.size, 0, none⟩) (Nat.lt_succ_self _) _⟩

theorem wpL_bx (w wr W0 : World) {ops : Array Oper} {rest : List Oper} {o : Oper} {a : Act} {Q : Exit → Act → World → Prop} (hgd : o.guard = none) (s x : Operand)
    (ho : o.op = .call { callee := .builtin .append, args := #[s, x], argTypes := #[24, 24] }) (v : Value) (L : List Tk) (hs : a.eval s = v) (hrow : RowOf w wr v L)
    (t : Tk) (a1 : Option Addr) (c1 nA : Nat) (hx : a.eval x = .slice (some ⟨W0.heap.size, 0, none⟩) 1 1) (hnA : t.attrs.length = nA) (hbx : Bx wr W0 t nA a1 c1) (hn : L.length ≤ 1048576)
    (h : ∀ v' w', RowOf w w' v' (L ++ [t]) → wpList Tryz.prog ops Q rest (a.put o.dst v') w') : wpList Tryz.prog ops Q (o :: rest) a (W0.alloc (.cells #[.int .i64 t.kind, .string t.name, .slice a1 nA c1, .string t.text] 42)) :=
  wpL_row w wr _ hgd s x ho v L hs hrow (hbx.bel.alloc hbx.bel.size _) t a1 c1 W0.heap.size nA hx hnA (heap_alloc_new _ _) (own_lift (hbx.own.below ((Below.refl _ _).alloc (Nat.le_refl _) _)) (Nat.le_succ _)) hn h

theorem seg_of {ts : List Tk} {i : Nat} (h : i < ts.length) : ts[i]? = some ts[i] := List.getElem?_eq_getElem h

/-- A tree that is answered, in memory of its own, and whether it is what was asked for. -/
def TreeAns (w : World) (R : List Tk) (b : Bool) (e : Ending) (w' : World) : Prop := ∃ v, e = .returned (.tuple #[v, .bool b]) ∧ RowOf w w' v R

theorem TreeAns.none {w wr : World} (hb : Below w.heap.size w wr) : TreeAns w [] false (.returned (.tuple #[.slice (some ⟨wr.heap.size, 0, none⟩) 0 0, .bool false])) (wr.alloc (.cells #[] 42)) :=
  ⟨_, rfl, RowOf.start (hb.alloc hb.size _) hb.size (heap_alloc_new _ _)⟩

theorem RowOf.later {w w1 w' : World} {v : Value} {L : List Tk} (hb : Below w.heap.size w w1) (h : RowOf w1 w' v L) : RowOf w w' v L := by
  obtain ⟨es, a, c, e1, e2, e3⟩ := h.row
  exact ⟨⟨es, a, c, e1, e2.mono hb.size, e3⟩, bb hb h.bel⟩

end Go.Proofs.YteninofjeidljaaGreat
