/- Rows joined: a row of others' nodes made one's own, two rows of one's own made one. A branch is a tree by itself (mathematics alone). A tree without a node and all it has (mathematics alone). -/
import Derived.Test.YtikplfghepojiaaM18
import Derived.Test.YtikplfghepojiaaM17
import Derived.Test.YtikplfghepojiaaM13
namespace Go.Proofs.Ytikplfghepojiaa
open Go.RowKit
set_option linter.unusedVariables false
set_option linter.unusedSimpArgs false

theorem tk_drop {w : World} {b o : Nat} {ts : List Tk} (h : TkRow w (some ⟨b, o, none⟩) ts) (k : Nat) : TkRow w (some ⟨b, o + k * 4, none⟩) (ts.drop k) := by
  intro j hj
  rw [List.length_drop] at hj
  obtain ⟨b', o', aa, ca, e, hb, q0, q1, q2, q3, q4⟩ := h (k + j) (by omega)
  cases e
  rw [List.getElem_drop]
  have e1 : o + k * 4 + j * 4 = o + (k + j) * 4 := by omega
  exact ⟨b, o + k * 4, aa, ca, rfl, hb, by rw [e1]; exact q0, by rw [e1]; exact q1, by rw [e1]; exact q2, by rw [e1]; exact q3, q4⟩

theorem sl_from (b o L cap k : Nat) (h : k ≤ L) (hL : L ≤ cap) (W : World) : (Instr.slice 24 (.slice (some ⟨b, o, none⟩) L cap) (some (.int .i64 k)) none none).run Try.prog W = .ok (.slice (some (if cap = k then ⟨b, o, none⟩ else ⟨b, o + k * 4, none⟩)) (L - k) (cap - k)) W := by
  have h' : (k : Int) ≤ L := by omega
  have h2 : (L : Int) ≤ cap := by omega
  go_simp
  by_cases e : cap = k <;> simp [e, Addr.add]

/-- What stands behind, as a row. -/
theorem tk_from {w : World} {b o cap k : Nat} {ts : List Tk} (h : TkRow w (some ⟨b, o, none⟩) ts) (hc : ts.length ≤ cap) : TkRow w (some (if cap = k then ⟨b, o, none⟩ else ⟨b, o + k * 4, none⟩)) (ts.drop k) := by
  split
  · intro j hj
    rw [List.length_drop] at hj
    omega
  · exact tk_drop h k

/-- A row of nodes as cells, and where their attrs lie. -/
theorem rowG {w : World} {b o : Nat} {ts : List Tk} (h : TkRow w (some ⟨b, o, none⟩) ts) : ∀ n, n ≤ ts.length → ∃ es : List Nd.E, es.map (·.t) = ts.take n ∧ (∀ j u, (Nd.cs es)[j]? = some u → w.cell? ((⟨b, o, none⟩ : Addr).add j) = some u) ∧ ∀ e ∈ es, AtRow w e.a e.t.attrs
  | 0, _ => ⟨[], by simp, fun j u hj => by simp [Nd.cs] at hj, fun e he => absurd he List.not_mem_nil⟩
  | n + 1, hn => by
    obtain ⟨es, e1, e2, e3⟩ := rowG h n (by omega)
    obtain ⟨b', o', aa, ca, e, hb, q0, q1, q2, q3, q4⟩ := h n (by omega)
    obtain ⟨rfl, rfl⟩ : b = b' ∧ o = o' := by cases e; exact ⟨rfl, rfl⟩
    have hl : es.length = n := by
      have := congrArg List.length e1
      rw [List.length_map, List.length_take] at this
      omega
    refine ⟨es ++ [⟨ts[n], aa, ca⟩], by rw [List.map_append, e1, take_snocN (by omega)]; rfl, fun j u hj => ?_, fun e he => ?_⟩
    · rw [Nd.cs_app, Nd.cs_one] at hj
      by_cases hlt : j < (Nd.cs es).length
      · rw [List.getElem?_append_left hlt] at hj
        exact e2 j u hj
      · rw [List.getElem?_append_right (by omega)] at hj
        rw [Nd.cs_len, hl] at hj hlt
        rw [add_plainW]
        have h4 : j - n * 4 < 4 := by
          have := (List.getElem?_eq_some_iff.1 hj).1
          exact this
        obtain ⟨d, hd, hd4⟩ : ∃ d, j = n * 4 + d ∧ d < 4 := ⟨j - n * 4, by omega, h4⟩
        subst hd
        rw [show n * 4 + d - n * 4 = d by omega] at hj
        rw [← Nat.add_assoc]
        match d, hd4, hj with
        | 0, _, hj => cases hj; exact q0
        | 1, _, hj => cases hj; exact q1
        | 2, _, hj => cases hj; exact q2
        | 3, _, hj => cases hj; exact q3
    · rcases List.mem_append.1 he with h' | h'
      · exact e3 e h'
      · rw [List.mem_singleton] at h'
        subst h'
        exact q4

/-- A row of one's own, the attrs wherever. -/
theorem tkG {w : World} {B g cap : Nat} {es : List Nd.E} (h : w.ownsRow B 34 4 (.slice (some ⟨g, 0, none⟩) es.length cap) es.length (Nd.cs es)) (ha : ∀ e ∈ es, AtRow w e.a e.t.attrs) : TkRow w (some ⟨g, 0, none⟩) (es.map (·.t)) := by
  intro j hj
  rw [List.length_map] at hj
  obtain ⟨k0, k1, k2, k3⟩ := Nd.cs_get es j hj
  have hx : ∀ k, k < es.length * 4 → ∀ u, (Nd.cs es)[k]? = some u → w.cell? ⟨g, 0 + k, none⟩ = some u := by
    intro k hk u hu
    rw [Nat.zero_add, World.ownsRow.cellAt h k hk]
    exact hu
  have hg : g < w.heap.size := by
    rcases h.2 with ⟨e, _⟩ | ⟨g', cap', cur, e, hg, hh, _⟩
    · cases e
    · cases e; exact lt_of_heap hh
  rw [List.getElem_map]
  exact ⟨g, 0, es[j].a, es[j].cap, rfl, hg, hx _ (by omega) _ k0, hx _ (by omega) _ k1, hx _ (by omega) _ k2, hx _ (by omega) _ k3, ha _ (List.getElem_mem hj)⟩

/-- append of a row of others' nodes, of none too, to a new one. -/
theorem wpL_fresh (W0 : World) {ops : Array Oper} {rest : List Oper} {o : Oper} {a : Act} {Q : Exit → Act → World → Prop} (hgd : o.guard = none) (s x : Operand)
    (ho : o.op = .call { callee := .builtin .append, args := #[s, x], argTypes := #[24, 24] }) (hs : a.eval s = .slice (some ⟨W0.heap.size, 0, none⟩) 0 0)
    (aD : Option Addr) (D : List Tk) (d cD : Nat) (hd : D.length = d) (hx : a.eval x = .slice aD d cD) (hR : TkRow W0 aD D) (hn : d ≤ 1048576)
    (h : ∀ a' c' w', TkRow w' a' D → Below W0.heap.size W0 w' → wpList Try.prog ops Q rest (a.put o.dst (.slice a' d c')) w') : wpList Try.prog ops Q (o :: rest) a (W0.alloc (.cells #[] 34)) := by
  obtain ⟨i0, hi, hz0, hz1, hz2⟩ := info_parts Nd.infoR
  have hB0 := (Below.refl W0.heap.size W0).alloc (Nat.le_refl _) (.cells #[] 34)
  have hown : (W0.alloc (.cells #[] 34)).ownsRow W0.heap.size 34 4 (.slice (some ⟨W0.heap.size, 0, none⟩) 0 0) 0 [] :=
    ⟨by simp, .inr ⟨W0.heap.size, 0, #[], rfl, Nat.le_refl _, heap_alloc_new _ _, Nat.le_refl _, Nat.zero_le _, by simp, by simp⟩⟩
  by_cases h0 : d = 0
  · subst h0
    exact wpL_none _ hgd s x 24 34 i0 ho Try.underlying24 hi _ _ _ hs (Nat.le_refl _) aD cD hx (h _ _ _ (fun j hj => by omega) hB0)
  · obtain ⟨b, o', aa, ca, e, hb, _⟩ := hR 0 (by omega)
    subst e
    obtain ⟨es, e1, e2, e3⟩ := rowG hR D.length (Nat.le_refl _)
    rw [List.take_of_length_le (Nat.le_refl _)] at e1
    have hel : es.length = d := by rw [← hd, ← e1, List.length_map]
    refine wpList_append_own_at _ hgd s x 24 ho W0.heap.size 34 i0 _ 4 64 Try.underlying24 hi hz0 hz1 hz2 rfl (by decide) _ 0 [] hs hown ⟨b, o', none⟩ d cD (Nd.cs es) hx (by rw [Nd.cs_len, hel]) (fun j u hj => ?_) (Nd.cs_cell es) (by unfold maxLen; omega) (by omega) hB0.size ?_
    · have h1 := e2 j u hj
      rw [add_plainW] at h1 ⊢
      exact (hB0.cell (p := ⟨b, o' + j, none⟩) hb).trans h1
    · intro v' w' h1 h2 _ _
      have hB1 := hB0.grown h2 (by simp) (fun k hk => (hown.lt k hk).1)
      rw [Nat.zero_add, List.nil_append] at h1
      rcases h1.2 with ⟨_, h'⟩ | ⟨g, cap, cur, rfl, _⟩
      · exact absurd h' h0
      · refine h _ _ _ ?_ hB1
        rw [← e1]
        rw [← hel] at h1
        exact tkG h1 (fun e he => (e3 e he).below hB1)

/-- append of a row of one's own to another one. -/
theorem wpL_two (w W1 W : World) {ops : Array Oper} {rest : List Oper} {o : Oper} {a : Act} {Q : Exit → Act → World → Prop} (hgd : o.guard = none) (s x : Operand)
    (ho : o.op = .call { callee := .builtin .append, args := #[s, x], argTypes := #[24, 24] }) (v v2 : Value) (L L2 : List Tk) (hs : a.eval s = v) (hx : a.eval x = v2) (h1 : RowOf w W1 v L) (h2 : RowOf W1 W v2 L2) (hn : L.length + L2.length ≤ 2097152)
    (h : ∀ v' w', RowOf w w' v' (L ++ L2) → wpList Try.prog ops Q rest (a.put o.dst v') w') : wpList Try.prog ops Q (o :: rest) a W := by
  obtain ⟨i0, hi, hz0, hz1, hz2⟩ := info_parts Nd.infoR
  have hW := h1.below h2.bel
  obtain ⟨es, a1, c1, rfl, hr1, hm1, hl1⟩ := h1.open
  obtain ⟨fs, a2, c2, rfl, hr2, hm2, hl2⟩ := h2.open
  by_cases h0 : fs = []
  · subst h0
    have hL2 : L2 = [] := by rw [← hm2]; rfl
    subst hL2
    rw [List.append_nil] at h
    refine wpL_none _ hgd s x 24 34 i0 ho Try.underlying24 hi a1 es.length c1 hs ?_ a2 c2 hx (h _ _ hW)
    rcases hr1.own.2 with ⟨e, _⟩ | ⟨g, cap, cur, e, _, _, hc, _⟩
    · injection e with e1 e2 e3
      rw [e2]
      exact Nat.zero_le _
    · injection e with e1 e2 e3
      rw [e3]
      exact hc
  · obtain ⟨g, e, _, hcs⟩ := hr2.cells h0
    subst e
    obtain ⟨k1, k2⟩ := hr1.apart_later hr2 (Nat.le_refl _)
    refine Nd.wpL_join W hgd s x ho w.heap.size _ es fs hs (hr1.below h2.bel) g fs.length c2 hx rfl hcs (fun e he => ⟨own_lift (hr2.ats e he).1 h1.bel.size, fun g' o' hl' e' => k2 e he g' o' hl' e'⟩) hr2.apart k1 (by omega) hW.bel.size ?_
    intro a' c' w' h3 h4 _
    exact h _ _ ⟨⟨_, a', c', rfl, h3, by rw [List.map_append, hm1, hm2]⟩, hW.bel.trans h4⟩

end Go.Proofs.Ytikplfghepojiaa

namespace Go.Proofs.Ytikplfghepojiaa
open Go.RowKit
set_option linter.unusedVariables false

theorem drop_none {p : Nat → Bool} : ∀ {l : List Nat}, l.dropWhile p = [] → ∀ x ∈ l, p x = true
  | [], _, x, hx => absurd hx List.not_mem_nil
  | y :: l, h, x, hx => by
    rw [List.dropWhile_cons] at h
    split at h
    · rename_i hy
      rcases List.mem_cons.1 hx with rfl | h'
      · exact hy
      · exact drop_none h x h'
    · cases h

section
variable {ts : List Tk} {k : Nat}

theorem branch_at (hk : k < ts.length) {j : Nat} (hj : k + j < endN ts k) {t : Tk} (ht : ts[k + j]? = some t) : (branchL ts k)[j]? = some (shK (if j = 0 then -1 else t.kind - (k : Int)) t) := by
  have h := endN_le hk
  unfold branchL
  rw [segN_get _ (by omega) j (by omega) t ht]
  unfold brF
  by_cases e : j = 0
  · subst e
    rw [if_pos (Nat.add_zero k), if_pos rfl]
  · rw [if_neg (by omega), if_neg e]

theorem branch_get (hk : k < ts.length) {j : Nat} (hj : k + j < endN ts k) : ∃ (h1 : k + j < ts.length) (h2 : j < (branchL ts k).length), (branchL ts k)[j] = shK (if j = 0 then -1 else ts[k + j].kind - (k : Int)) ts[k + j] := by
  have h := endN_le hk
  have h1 : k + j < ts.length := by omega
  have h2 : j < (branchL ts k).length := by rw [branchL_len hk]; omega
  refine ⟨h1, h2, ?_⟩
  have e := branch_at hk hj (List.getElem?_eq_getElem h1)
  rw [List.getElem?_eq_getElem h2] at e
  exact Option.some.inj e

theorem branch_par (hk : k < ts.length) {j : Nat} (hj : k + j < endN ts k) : parI (branchL ts k) j = if j = 0 then -1 else parI ts (k + j) - (k : Int) := by
  have h := endN_le hk
  have ht := List.getElem?_eq_getElem (show k + j < ts.length by omega)
  unfold parI
  rw [branch_at hk hj ht, ht]
  rfl

/-- What is open within, and what is open around. -/
theorem chain_branch (hT : TreeP ts) (hk : k < ts.length) : ∀ j, k + j < endN ts k → chainF ts (k + j + 1) = (chainF (branchL ts k) (j + 1)).map (fun x => k + x) ++ (chainF ts (k + 1)).tail
  | 0, _ => by
    show chainF ts (k + 1) = (List.map (fun x => k + x) [0]) ++ _
    obtain ⟨r, e⟩ := chain_head ts k
    rw [e]
    rfl
  | j + 1, hj => by
    have hle := endN_le hk
    have ih := chain_branch hT hk j (by omega)
    have hup := hT.up (k + (j + 1)) (by omega)
    have hin : (k : Int) ≤ parI ts (k + (j + 1)) := endN_in hk (by omega) hj
    rcases hup with h0 | ⟨p, hp, hpp, _⟩
    · omega
    · have hpk : k ≤ p := by omega
      have e1 : chainF ts (k + (j + 1) + 1) = (k + (j + 1)) :: (chainF ts (k + j + 1)).dropWhile (fun (x : Nat) => !decide ((x : Int) = parI ts (k + (j + 1)))) := rfl
      have e2 : chainF (branchL ts k) (j + 1 + 1) = (j + 1) :: (chainF (branchL ts k) (j + 1)).dropWhile (fun (x : Nat) => !decide ((x : Int) = parI (branchL ts k) (j + 1))) := rfl
      have e3 : parI (branchL ts k) (j + 1) = parI ts (k + (j + 1)) - (k : Int) := by rw [branch_par hk hj, if_neg (by omega)]
      have hR : ∀ x ∈ (chainF ts (k + 1)).tail, x < k := by
        intro x hx
        obtain ⟨r, e⟩ := chain_head ts k
        rw [e] at hx
        have hL := (hT.linked k hk).1
        rw [e] at hL
        match r, hL, hx with
        | y :: r', hL, hx =>
          have h1 := hL.2.1
          have h2 := hL.tail.le x hx
          omega
      have hm : p ∈ (chainF (branchL ts k) (j + 1)).map (fun x => k + x) := by
        have hp' : p ∈ chainF ts (k + j + 1) := hp
        rw [ih] at hp'
        rcases List.mem_append.1 hp' with h' | h'
        · exact h'
        · have := hR p h'; omega
      rw [e1, e2, ih, List.map_cons, List.cons_append, e3]
      congr 1
      rw [List.dropWhile_append, List.dropWhile_map]
      have ef : ((fun (x : Nat) => !decide ((x : Int) = parI ts (k + (j + 1)))) ∘ fun x => k + x) = fun (x : Nat) => !decide ((x : Int) = parI ts (k + (j + 1)) - (k : Int)) := by
        funext x
        show (!decide (((k + x : Nat) : Int) = _)) = _
        congr 1
        apply decide_eq_decide.2
        omega
      rw [ef, if_neg]
      intro hemp
      obtain ⟨q, hq, e⟩ := List.mem_map.1 hm
      have hne : (chainF (branchL ts k) (j + 1)).dropWhile (fun (x : Nat) => !decide ((x : Int) = parI ts (k + (j + 1)) - (k : Int))) = [] := by
        simpa using hemp
      have hall := drop_none hne q hq
      simp only [Bool.not_eq_true', decide_eq_false_iff_not] at hall
      apply hall
      omega

/-- A branch is a tree by itself. -/
theorem branch_tree (hT : TreeP ts) (hk : k < ts.length) (he : elN ts k) : TreeP (branchL ts k) := by
  have hle := endN_le hk
  have hlen := branchL_len hk
  have h50 := hT.2.1
  refine ⟨by omega, by omega, by rw [branch_par hk (by omega)]; rfl, ?_, fun j hj => ?_⟩
  · obtain ⟨h1, h2, e⟩ := branch_get hk (j := 0) (by omega)
    refine ⟨h2, ?_⟩
    rw [e]
    exact he.2
  · have hje : k + j < endN ts k := by omega
    obtain ⟨h1, h2, e⟩ := branch_get hk hje
    obtain ⟨⟨_, n1⟩, n2, n3, n4⟩ := hT.2.2.2.2 (k + j) h1
    refine ⟨⟨h2, ?_⟩, ?_, ?_, ?_⟩
    · rw [e]
      exact n1
    · by_cases h0 : j = 0
      · exact .inl h0
      · right
        obtain ⟨i, rfl⟩ : ∃ i, j = i + 1 := ⟨j - 1, by omega⟩
        have hin : (k : Int) ≤ parI ts (k + (i + 1)) := endN_in hk (by omega) hje
        rcases n2 with n2 | ⟨p, p1, p2, p3⟩
        · omega
        · have hc := chain_branch hT hk i (by omega)
          have p1' : p ∈ chainF ts (k + i + 1) := p1
          rw [hc] at p1'
          have hR : ∀ x ∈ (chainF ts (k + 1)).tail, x < k := by
            intro x hx
            obtain ⟨r, e⟩ := chain_head ts k
            rw [e] at hx
            have hL := (hT.linked k hk).1
            rw [e] at hL
            match r, hL, hx with
            | y :: r', hL, hx =>
              have h1 := hL.2.1
              have h2 := hL.tail.le x hx
              omega
          rcases List.mem_append.1 p1' with h' | h'
          · obtain ⟨q, hq, rfl⟩ := List.mem_map.1 h'
            have hqi : k + q < k + (i + 1) := by
              have := (hT.linked (k + i) (by omega)).2 (k + q) (by rw [hc]; exact List.mem_append.2 (.inl h'))
              omega
            refine ⟨q, hq, by rw [branch_par hk hje, if_neg (by omega)]; omega, ?_⟩
            obtain ⟨g1, g2, g3⟩ := branch_get hk (j := q) (by omega)
            obtain ⟨_, p4⟩ := p3
            exact ⟨g2, by rw [g3]; exact p4⟩
          · have := hR p h'
            omega
    · have hc := chain_branch hT hk j hje
      have := congrArg List.length hc
      rw [List.length_append, List.length_map] at this
      omega
    · rintro ⟨g1, g2, g3, g4, g5⟩
      obtain ⟨i, rfl⟩ : ∃ i, j = i + 1 := ⟨j - 1, by omega⟩
      obtain ⟨m1, m2, m3⟩ := branch_get hk (j := i) (by omega)
      have g4' : ((branchL ts k)[i]).name.size = 0 := g4
      have g5' : ((branchL ts k)[i]).kind = ((branchL ts k)[i + 1]).kind := g5
      rw [m3] at g4' g5'
      rw [e] at g3 g5'
      have hi0 : ¬ i = 0 := by
        intro h0
        subst h0
        obtain ⟨_, he2⟩ := he
        exact he2 g4'
      refine n4 ⟨h1, by omega, g3, ?_, ?_⟩
      · exact g4'
      · have h6 : (if i = 0 then -1 else ts[k + i].kind - (k : Int)) = (if i + 1 = 0 then -1 else ts[k + (i + 1)].kind - (k : Int)) := g5'
        rw [if_neg hi0, if_neg (by omega)] at h6
        show ts[k + i].kind = ts[k + (i + 1)].kind
        omega

end

end Go.Proofs.Ytikplfghepojiaa

namespace Go.Proofs.Ytikplfghepojiaa
open Go.RowKit
set_option linter.unusedVariables false

/-- Of two chains from one on each is the other. -/
theorem linked_uni {ts : List Tk} : ∀ {c d : List Nat} {x : Nat}, Linked ts (x :: c) → Linked ts (x :: d) → c = d
  | [], [], x, _, _ => rfl
  | [], z :: d, x, h, k => by
    have h0 : x = 0 := h
    have := k.2.1
    omega
  | y :: c, [], x, h, k => by
    have h0 : x = 0 := k
    have := h.2.1
    omega
  | y :: c, z :: d, x, h, k => by
    have e : y = z := by
      have h1 := h.1
      have k1 := k.1
      omega
    subst e
    rw [linked_uni h.tail k.tail]

/-- Who stands behind all that a node has is in none of it. -/
theorem out_kind {ts : List Tk} (hT : TreeP ts) {a : Nat} (ha : a < ts.length) {i : Nat} (hi : endN ts a ≤ i) (hn : i < ts.length) : parI ts i < (a : Int) ∨ (endN ts a : Int) ≤ parI ts i := by
  have hle := endN_le ha
  rcases Nat.lt_or_eq_of_le hi with h' | h'
  · rcases hT.up i hn with h0 | ⟨p, hpm, ep, _⟩
    · omega
    · by_cases h1 : p < a
      · left; omega
      · by_cases h2 : endN ts a ≤ p
        · right; omega
        · exfalso
          have hin := in_chain hT ha (p - a) (by omega)
          rw [show a + (p - a) + 1 = p + 1 by omega] at hin
          have hL := hT.linked (i - 1) (by omega)
          rw [show i - 1 + 1 = i by omega] at hL
          obtain ⟨r, e1, e2⟩ := hL.1.drop p hpm
          have hL2 := hT.linked p (by omega)
          obtain ⟨r2, e3⟩ := chain_head ts p
          rw [e3] at hin hL2
          have er := linked_uni e2 hL2.1
          have hmem : a ∈ chainF ts i := by
            refine (List.dropWhile_sublist (fun (j : Nat) => !decide ((j : Int) = (p : Int)))).mem ?_
            rw [e1, er]
            exact hin
          have := out_chain hT ha (i - endN ts a - 1) (by omega)
          rw [show endN ts a + (i - endN ts a - 1) + 1 = i by omega] at this
          exact this hmem
  · subst h'
    left
    rcases endN_stop ha with h' | h'
    · omega
    · exact h'

/-- Who is whose parent without what stood from a to e. -/
def cutF (a e : Nat) (t : Tk) : Int := if (e : Int) ≤ t.kind then t.kind - ((e : Int) - (a : Int)) else t.kind

/-- What is out, of the first i. -/
def outC (ts : List Tk) (a e i : Nat) : List Tk := ts.take (min i a) ++ segN (fun _ t => cutF a e t) ts e (i - e)

theorem outC_zero (ts : List Tk) (a e : Nat) : outC ts a e 0 = [] := by
  unfold outC
  rw [Nat.zero_min, List.take_zero, Nat.zero_sub]
  rfl

theorem outC_skip {ts : List Tk} {a e i : Nat} (h1 : a ≤ i) (h2 : i < e) : outC ts a e (i + 1) = outC ts a e i := by
  unfold outC
  rw [Nat.min_eq_right h1, Nat.min_eq_right (by omega), show i + 1 - e = 0 by omega, show i - e = 0 by omega]

theorem outC_low {ts : List Tk} {a e i : Nat} (hae : a ≤ e) (h : i < a) (hi : i < ts.length) : outC ts a e (i + 1) = outC ts a e i ++ [ts[i]] := by
  unfold outC
  rw [Nat.min_eq_left (by omega), Nat.min_eq_left (by omega), show i + 1 - e = 0 by omega, show i - e = 0 by omega]
  show List.take (i + 1) ts ++ [] = (List.take i ts ++ []) ++ [ts[i]]
  rw [List.append_nil, List.append_nil, List.take_succ_eq_append_getElem hi]

theorem outC_high {ts : List Tk} {a e i : Nat} (hae : a ≤ e) (h : e ≤ i) (hi : i < ts.length) : outC ts a e (i + 1) = outC ts a e i ++ [shK (cutF a e ts[i]) ts[i]] := by
  unfold outC
  rw [Nat.min_eq_right (by omega), Nat.min_eq_right (by omega), show i + 1 - e = (i - e) + 1 by omega, segN_next (t := ts[i]) (by rw [show e + (i - e) = i by omega]; exact List.getElem?_eq_getElem hi), List.append_assoc]

theorem outC_len {ts : List Tk} {a e i : Nat} (hae : a ≤ e) (he : e ≤ ts.length) (hi : i ≤ ts.length) : (outC ts a e i).length = min i a + (i - e) := by
  unfold outC
  rw [List.length_append, List.length_take]
  by_cases h : e ≤ i
  · rw [segN_len _ (by omega)]
    omega
  · rw [show i - e = 0 by omega]
    show min (min i a) ts.length + 0 = _
    omega

section
variable {ts : List Tk} {a : Nat}

theorem low_kind (hT : TreeP ts) {i : Nat} (hi : i < ts.length) : parI ts i < (i : Int) := by
  rcases hT.up i hi with h0 | ⟨p, hp, ep, _⟩
  · subst h0
    rw [hT.2.2.1]
    omega
  · rcases Nat.eq_zero_or_pos i with h0 | h0
    · subst h0; rw [hT.2.2.1]; omega
    · have hL := (hT.linked (i - 1) (by omega)).2
      rw [show i - 1 + 1 = i by omega] at hL
      have := hL p hp
      omega

/-- The last that is out, ahead of one that stays. -/
theorem outC_last {e i : Nat} (hae : a ≤ e) (he : e ≤ ts.length) (ha1 : 1 ≤ a) (hi : i < ts.length) (h0 : 0 < i) (hx : i < a ∨ e ≤ i) : ∃ t, (outC ts a e i)[(outC ts a e i).length - 1]? = some t ∧ (i < a → ts[i - 1]? = some t) ∧ (i = e → ts[a - 1]? = some t) ∧ (e < i → ∃ u, ts[i - 1]? = some u ∧ t = shK (cutF a e u) u) := by
  have hl := outC_len hae he (show i ≤ ts.length by omega)
  rcases hx with hx | hx
  · have hlt : i - 1 < ts.length := by omega
    refine ⟨ts[i - 1], ?_, fun _ => List.getElem?_eq_getElem hlt, fun _ => by omega, fun _ => by omega⟩
    rw [hl, Nat.min_eq_left (by omega), show i - e = 0 by omega, Nat.add_zero]
    unfold outC
    rw [Nat.min_eq_left (by omega), List.getElem?_append_left (by rw [List.length_take]; omega), List.getElem?_take, if_pos (by omega)]
    exact List.getElem?_eq_getElem hlt
  · rcases Nat.lt_or_eq_of_le hx with h' | h'
    · have hlt : i - 1 < ts.length := by omega
      refine ⟨shK (cutF a e ts[i - 1]) ts[i - 1], ?_, fun _ => by omega, fun _ => by omega, fun _ => ⟨ts[i - 1], List.getElem?_eq_getElem hlt, rfl⟩⟩
      rw [hl, Nat.min_eq_right (by omega)]
      unfold outC
      have hta : (ts.take (min i a)).length = a := by rw [List.length_take]; omega
      rw [List.getElem?_append_right (by rw [hta]; omega), hta, segN_get _ (by omega) (a + (i - e) - 1 - a) (by omega) ts[i - 1] (by rw [show e + (a + (i - e) - 1 - a) = i - 1 by omega]; exact List.getElem?_eq_getElem hlt)]
    · subst h'
      have hlt : a - 1 < ts.length := by omega
      refine ⟨ts[a - 1], ?_, fun _ => by omega, fun _ => List.getElem?_eq_getElem hlt, fun _ => by omega⟩
      rw [hl, Nat.min_eq_right (by omega), Nat.sub_self, Nat.add_zero]
      unfold outC
      rw [Nat.min_eq_right (by omega), List.getElem?_append_left (by rw [List.length_take]; omega), List.getElem?_take, if_pos (by omega)]
      exact List.getElem?_eq_getElem hlt

/-- Elsewhere no two texts come to stand side by side. -/
theorem no_join (hT : TreeP ts) (ha : a < ts.length) (ha1 : 1 ≤ a) {i : Nat} (hi : i < ts.length) (h0 : 0 < i) (hx : i < a ∨ endN ts a < i) {t : Tk} (ht : (outC ts a (endN ts a) i)[(outC ts a (endN ts a) i).length - 1]? = some t) : ¬ (ts[i].name.size = 0 ∧ t.name.size = 0 ∧ t.kind = cutF a (endN ts a) ts[i]) := by
  have hle := endN_le ha
  rintro ⟨h1, h2, h3⟩
  obtain ⟨t', e1, e2, e3, e4⟩ := outC_last (ts := ts) (a := a) (e := endN ts a) (by omega) hle.2 ha1 hi h0 (by omega)
  rw [ht] at e1
  have : t = t' := Option.some.inj e1
  subst this
  have htw := (hT.2.2.2.2 i hi).2.2.2
  rcases hx with hx | hx
  · have e5 := e2 hx
    rw [List.getElem?_eq_getElem (show i - 1 < ts.length by omega)] at e5
    have e6 := Option.some.inj e5
    refine htw ⟨hi, h0, h1, by rw [e6]; exact h2, ?_⟩
    rw [e6, h3]
    have hk := low_kind hT hi
    rw [parI_at hi] at hk
    unfold cutF
    rw [if_neg (by omega)]
  · obtain ⟨u, e5, e6⟩ := e4 hx
    rw [List.getElem?_eq_getElem (show i - 1 < ts.length by omega)] at e5
    have e7 := Option.some.inj e5
    subst e6
    have h2' : u.name.size = 0 := h2
    have h3' : cutF a (endN ts a) u = cutF a (endN ts a) ts[i] := h3
    refine htw ⟨hi, h0, h1, by rw [e7]; exact h2', ?_⟩
    rw [e7]
    have k1 := out_kind hT ha (i := i) (by omega) hi
    have k2 := out_kind hT ha (i := i - 1) (by omega) (by omega)
    rw [parI_at hi] at k1
    rw [parI_at (show i - 1 < ts.length by omega), e7] at k2
    unfold cutF at h3'
    split at h3' <;> split at h3' <;> omega

end

/-- The two texts there are one. -/
def joinC (ts : List Tk) (a e : Nat) (t u : Tk) : List Tk :=
  (ts.take a).set (a - 1) ⟨t.kind, t.name, t.attrs, t.text ++ u.text⟩ ++ segN (fun _ r => if (e : Int) < r.kind then r.kind - ((e : Int) - (a : Int)) - 1 else r.kind) ts (e + 1) (ts.length - (e + 1))

/-- Two texts come to stand side by side there. -/
noncomputable def sideB (ts : List Tk) (a e : Nat) : Bool := match ts[a - 1]?, ts[e]? with
  | some t, some u => decide (u.name.size = 0) && (decide (t.name.size = 0) && decide (t.kind = cutF a e u))
  | _, _ => false

/-- A tree without them. -/
noncomputable def cutL (ts : List Tk) (a e : Nat) : List Tk := if sideB ts a e then (match ts[a - 1]?, ts[e]? with | some t, some u => joinC ts a e t u | _, _ => []) else outC ts a e ts.length

theorem cutL_no {ts : List Tk} {a e : Nat} (h : sideB ts a e = false) : cutL ts a e = outC ts a e ts.length := by
  unfold cutL
  rw [if_neg (by rw [h]; exact Bool.false_ne_true)]

theorem cutL_yes {ts : List Tk} {a e : Nat} (h : sideB ts a e = true) {t u : Tk} (ht : ts[a - 1]? = some t) (hu : ts[e]? = some u) : cutL ts a e = joinC ts a e t u := by
  unfold cutL
  rw [if_pos h, ht, hu]

end Go.Proofs.Ytikplfghepojiaa
