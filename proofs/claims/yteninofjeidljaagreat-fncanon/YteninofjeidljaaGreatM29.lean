/- A tree without the nodes from a up to h is a tree, where its nodes are right and no two texts meet (mathematics alone). A tree without a branch is written as the whole is written but for it (mathematics alone). The same where two texts are joined; then whatever is cut (mathematics alone). A tree without a branch is a tree, where a joined text is not too long (mathematics alone). -/
import Derived.Test.YteninofjeidljaaGreatM28
namespace Go.Proofs.YteninofjeidljaaGreat

open Go.RowKit

set_option linter.unusedVariables false

structure Gap0 (ts us : List Tk) (a h : Nat) : Prop where
  tree : TreeP ts
  ah : a < h
  hn : h ≤ ts.length
  one : 1 ≤ a
  len : us.length + (h - a) = ts.length
  name : ∀ x, x < ts.length → stays a h x → (nodeAt us (gapF a h x)).name = (nodeAt ts x).name
  par : ∀ x, x < ts.length → stays a h x → parI us (gapF a h x) = (if (h : Int) ≤ parI ts x then parI ts x - ((h : Int) - (a : Int)) else parI ts x)
  out : ∀ x, x < ts.length → stays a h x → parI ts x < (a : Int) ∨ (h : Int) ≤ parI ts x
  up : h < ts.length → ∃ p : Nat, parI ts h = (p : Int) ∧ p ∈ chainF ts a

variable {ts us : List Tk} {a h : Nat}

theorem Gap0.up1 (g : Gap0 ts us a h) {x : Nat} (hx : x < ts.length) (hs : stays a h x) (h0 : ¬ x = 0) : ∃ p : Nat, parI ts x = (p : Int) ∧ p < x ∧ stays a h p ∧ parI us (gapF a h x) = (gapF a h p : Int) ∧ p ∈ chainF ts x ∧ elN ts p := by
  have hl := low_kind g.tree hx
  rcases g.tree.up x hx with h' | ⟨p, hm, ep, hel⟩
  · exact absurd h' h0
  have ho := g.out x hx hs
  have hq := g.par x hx hs
  have ha := g.ah
  rw [← ep] at ho hl hq
  refine ⟨p, ep.symm, by omega, by unfold stays; omega, ?_, hm, hel⟩
  rw [hq]
  by_cases q : h ≤ p
  · rw [if_pos (by omega), gapF_high ha q]; omega
  · rw [if_neg (by omega), gapF_low (by omega)]

theorem dw_chain (hT : TreeP ts) {i p : Nat} (hi : i ≤ ts.length) (h1 : 1 ≤ i) (hp : p ∈ chainF ts i) : (chainF ts i).dropWhile (fun (x : Nat) => !decide ((x : Int) = (p : Int))) = chainF ts (p + 1) := by
  obtain ⟨m, rfl⟩ : ∃ m, i = m + 1 := ⟨i - 1, by omega⟩
  have hL := hT.linked m (by omega)
  obtain ⟨r, e1, e2⟩ := hL.1.drop p hp
  have hpl := hL.2 p hp
  have h2 := (hT.linked p (by omega)).1
  obtain ⟨d, ed⟩ := chain_head ts p
  rw [ed] at h2 ⊢
  have e3 : (fun (x : Nat) => !decide ((x : Int) = (p : Int))) = fun (x : Nat) => !decide (x = p) := by
    funext x
    congr 1
    apply decide_eq_decide.2
    omega
  first
    | rw [e1, linked_uni e2 h2]
    | (rw [e3, e1, linked_uni e2 h2])

theorem dw_map {φ : Nat → Nat} {p : Nat} : ∀ {l : List Nat}, (∀ x ∈ l, (φ x = φ p ↔ x = p)) → (l.map φ).dropWhile (fun (x : Nat) => !decide ((x : Int) = (φ p : Int))) = (l.dropWhile (fun (x : Nat) => !decide ((x : Int) = (p : Int)))).map φ
  | [], _ => rfl
  | x :: l, h => by
    rw [List.map_cons, List.dropWhile_cons, List.dropWhile_cons]
    have hx := h x (by simp)
    by_cases e : x = p
    · subst e
      simp
    · have e2 : ¬ ((φ x : Nat) : Int) = (φ p : Int) := by have := fun q => e (hx.1 q); omega
      have e3 : ¬ ((x : Nat) : Int) = (p : Int) := by omega
      rw [decide_eq_false e2, decide_eq_false e3]
      simp only [Bool.not_false, if_true]
      exact dw_map fun y hy => h y (by simp [hy])

theorem Gap0.chain (g : Gap0 ts us a h) : ∀ n i, i < n → i < ts.length → stays a h i → chainF us (gapF a h i + 1) = (chainF ts (i + 1)).map (gapF a h) ∧ (∀ x ∈ chainF ts (i + 1), stays a h x) ∧ (¬ i = 0 → ∃ p : Nat, p ∈ chainF ts i ∧ parI us (gapF a h i) = (gapF a h p : Int) ∧ gapF a h p ∈ chainF us (gapF a h i) ∧ stays a h p ∧ elN ts p)
  | 0, i, hn, _, _ => absurd hn (Nat.not_lt_zero _)
  | n + 1, i, hn, hi, hs => by
    have ha := g.ah
    have h1 := g.one
    by_cases h0 : i = 0
    · subst h0
      have e0 : gapF a h 0 = 0 := gapF_low (by omega)
      refine ⟨?_, fun x hx => ?_, fun q => absurd rfl q⟩
      · rw [e0]
        show [0] = [gapF a h 0]
        rw [e0]
      · have : x ∈ [0] := hx
        rw [List.mem_singleton.1 this]
        exact hs
    · obtain ⟨p, ep, hlt, hsp, eq, hm, hel⟩ := g.up1 hi hs h0
      obtain ⟨b, hb1, hb2, hb3, hb4, hpb⟩ : ∃ b, b < i ∧ stays a h b ∧ gapF a h i = gapF a h b + 1 ∧ b < ts.length ∧ p ∈ chainF ts (b + 1) := by
        by_cases q : i = h
        · refine ⟨a - 1, by omega, .inl (by omega), ?_, by omega, ?_⟩
          · rw [q, gapF_high ha (Nat.le_refl _), gapF_low (by omega)]
            omega
          · obtain ⟨p', e1, e2⟩ := g.up (by omega)
            rw [← q, ep] at e1
            have : p = p' := by omega
            subst this
            rw [show a - 1 + 1 = a by omega]
            exact e2
        · refine ⟨i - 1, by omega, by unfold stays at hs ⊢; omega, ?_, by omega, by rw [show i - 1 + 1 = i by omega]; exact hm⟩
          rcases hs with hs | hs
          · rw [gapF_low hs, gapF_low (by omega)]; omega
          · rw [gapF_high ha hs, gapF_high ha (by omega)]; omega
      obtain ⟨c1, c2, _⟩ := g.chain n b (by omega) hb4 hb2
      have d1 := dw_chain g.tree (show b + 1 ≤ ts.length by omega) (by omega) hpb
      have d2 := dw_chain g.tree (show i ≤ ts.length by omega) (by omega) hm
      have et : chainF ts (i + 1) = i :: chainF ts (p + 1) := by
        show i :: (chainF ts i).dropWhile (fun (j : Nat) => !decide ((j : Int) = parI ts i)) = _
        rw [ep, d2]
      have hmap := dw_map (φ := gapF a h) (p := p) (l := chainF ts (b + 1)) (fun x hx => ⟨fun e => gapF_inj ha (c2 x hx) hsp e, fun e => by rw [e]⟩)
      refine ⟨?_, fun x hx => ?_, fun _ => ⟨p, hm, eq, ?_, hsp, hel⟩⟩
      · have eu : chainF us (gapF a h i + 1) = gapF a h i :: (chainF us (gapF a h i)).dropWhile (fun (j : Nat) => !decide ((j : Int) = parI us (gapF a h i))) := rfl
        rw [eu, eq, et, List.map_cons, ← d1, ← hmap]
        congr 2
        rw [hb3]
        exact c1
      · rw [et] at hx
        rcases List.mem_cons.1 hx with rfl | hx
        · exact hs
        · rw [← d1] at hx
          exact c2 x ((List.dropWhile_sublist _).subset hx)
      · rw [hb3, c1]
        exact List.mem_map.2 ⟨p, hpb, rfl⟩

end Go.Proofs.YteninofjeidljaaGreat

namespace Go.Proofs.YteninofjeidljaaGreat

open Go.RowKit

set_option linter.unusedVariables false

section

variable {ts : List Tk} {a : Nat}

theorem nodeAt_some {us : List Tk} {k : Nat} {t : Tk} (h : us[k]? = some t) : nodeAt us k = t := by
  unfold nodeAt
  rw [h]

theorem parI_some {us : List Tk} {k : Nat} {t : Tk} (h : us[k]? = some t) : parI us k = t.kind := by
  unfold parI
  rw [h]

/-- What stands there of those that stay, nothing joined. -/
theorem outC_get {e : Nat} (hae : a < e) (he : e ≤ ts.length) {x : Nat} (hx : x < ts.length) (hs : stays a e x) (hl : x < a → parI ts x < (e : Int)) : (outC ts a e ts.length)[gapF a e x]? = some (shK (cutF a e ts[x]) ts[x]) := by
  unfold outC
  rw [Nat.min_eq_right (by omega)]
  have hlen : (ts.take a).length = a := by rw [List.length_take]; omega
  rcases hs with hs | hs
  · rw [gapF_low hs, List.getElem?_append_left (by omega), List.getElem?_take_of_lt hs, List.getElem?_eq_getElem hx]
    have h1 := hl hs
    rw [parI_at hx] at h1
    congr 1
    unfold cutF shK
    rw [if_neg (by omega)]
  · rw [gapF_high hae hs, List.getElem?_append_right (by omega), hlen]
    obtain ⟨j, rfl⟩ : ∃ j, x = e + j := ⟨x - e, by omega⟩
    rw [show e + j - (e - a) - a = j by omega]
    exact segN_get (f := fun _ t => cutF a e t) (ts.length - e) (by omega) j (by omega) ts[e + j] (List.getElem?_eq_getElem hx)

theorem gap_out (hT : TreeP ts) (ha : a < ts.length) (ha1 : 1 ≤ a) (hU : TreeP (outC ts a (endN ts a) ts.length)) : Gap ts (outC ts a (endN ts a) ts.length) a (endN ts a) := by
  have hle := endN_le ha
  have hget : ∀ x, x < ts.length → stays a (endN ts a) x → ∃ t : Tk, nodeAt ts x = t ∧ (outC ts a (endN ts a) ts.length)[gapF a (endN ts a) x]? = some (shK (cutF a (endN ts a) t) t) := fun x hx hs =>
    ⟨ts[x], nodeAt_at hx, outC_get hle.1 hle.2 hx hs (fun h => by have := low_kind hT hx; omega)⟩
  refine ⟨hT, hU, hle.1, hle.2, ha1, ?_, fun x hx hs => ?_, fun x hx hs => ?_, fun x hx hs => ?_, fun x hx hs => ?_⟩
  · rw [outC_len (Nat.le_of_lt hle.1) hle.2 (Nat.le_refl _)]
    omega
  · obtain ⟨t, e1, e2⟩ := hget x hx hs
    rw [nodeAt_some e2, e1]
    rfl
  · obtain ⟨t, e1, e2⟩ := hget x hx hs
    rw [nodeAt_some e2, e1]
    rfl
  · obtain ⟨t, e1, e2⟩ := hget x hx hs
    rw [parI_some e2]
    have e3 : parI ts x = t.kind := by rw [parI_at hx, ← e1, nodeAt_at hx]
    rw [e3]
    rfl
  · rcases hs with hs | hs
    · left
      have := low_kind hT hx
      omega
    · exact out_kind hT ha hs hx

/-- No kid of one that stays stands within, but the branch's own root. -/
theorem kid_in (hT : TreeP ts) (ha : a < ts.length) {i x : Nat} (hs : stays a (endN ts a) i) (hx : x ∈ kidsN ts i) (hn : ¬ x = a) : stays a (endN ts a) x := by
  obtain ⟨h1, h2⟩ := List.mem_filter.1 hx
  simp only [Bool.and_eq_true, decide_eq_true_eq] at h2
  unfold stays at hs ⊢
  rcases Nat.lt_or_ge x a with h' | h'
  · exact .inl h'
  · rcases Nat.lt_or_ge x (endN ts a) with h3 | h3
    · have := endN_in ha (show a < x by omega) h3
      omega
    · exact .inr h3

theorem pairs_map {us : List Tk} {but but' : Int} {φ : Nat → Nat} {D : Nat → Prop} : ∀ {K : List Nat}, (∀ j ∈ K, D j) → Pairs ts us but but' φ D K (K.map φ)
  | [], _ => .nil
  | j :: K, h => .one (h j (by simp)) (pairs_map fun i hi => h i (by simp [hi]))

theorem notB_none (l : List Nat) : l.filter (notB (-1)) = l := List.filter_eq_self.2 fun x _ => by unfold notB; rw [decide_eq_false (by omega)]; rfl

/-- Nothing joined. -/
theorem canon_out (hT : TreeP ts) (ha : a < ts.length) (ha1 : 1 ≤ a) (hU : TreeP (outC ts a (endN ts a) ts.length)) {i : Nat} (hi : i < a) (f : Nat) (sd : List At) :
    canonN ts (a : Int) f i sd = canonN (outC ts a (endN ts a) ts.length) (-1) f i sd := by
  have g := gap_out hT ha ha1 hU
  have hle := endN_le ha
  have key := canon_pairs (ts := ts) (us := outC ts a (endN ts a) ts.length) (but := (a : Int)) (but' := -1) (gapF a (endN ts a)) (fun x => x < ts.length ∧ stays a (endN ts a) x) ?_ ?_ ?_ f i sd ⟨by omega, .inl hi⟩
  · rw [key, gapF_low hi]
  · intro x hx
    refine g.kept.alike hx (g.name x hx.1 hx.2) ?_
    rw [nodeAt_some (outC_get hle.1 hle.2 hx.1 hx.2 (fun h => by have := low_kind hT hx.1; omega)), nodeAt_at hx.1]
    rfl
  · intro x hx
    refine ⟨?_, by omega⟩
    have := hx.2
    unfold stays at this
    omega
  · intro x hx _
    rw [notB_none, g.kids hx.1 hx.2]
    have e : (kidsN ts x).filter (notB (a : Int)) = (kidsN ts x).filter fun y => decide (stays a (endN ts a) y) := by
      refine List.filter_congr fun y hy => ?_
      unfold notB
      by_cases q : y = a
      · subst q
        rw [decide_eq_true rfl, decide_eq_false (by unfold stays; omega)]
        rfl
      · rw [decide_eq_false (by omega), decide_eq_true (kid_in hT ha hx.2 hy q)]
        rfl
    rw [e]
    refine pairs_map fun y hy => ?_
    obtain ⟨h1, h2⟩ := List.mem_filter.1 hy
    exact ⟨kidsN_lt h1, of_decide_eq_true h2⟩

end

end Go.Proofs.YteninofjeidljaaGreat

namespace Go.Proofs.YteninofjeidljaaGreat

open Go.RowKit

set_option linter.unusedVariables false

section

variable {ts : List Tk} {a e : Nat} {t u : Tk}

theorem joinC_get (ha1 : 1 ≤ a) (hae : a < e) (he : e < ts.length) {x : Nat} (hx : x < ts.length) (hs : stays a (e + 1) x) :
    (joinC ts a e t u)[gapF a (e + 1) x]? = some (if x = a - 1 then ⟨t.kind, t.name, t.attrs, t.text ++ u.text⟩ else if x < a then ts[x] else shK (if (e : Int) < ts[x].kind then ts[x].kind - ((e : Int) - (a : Int)) - 1 else ts[x].kind) ts[x]) := by
  unfold joinC
  have hlen : (ts.take a).length = a := by rw [List.length_take]; omega
  rcases hs with hs | hs
  · rw [gapF_low hs, List.getElem?_append_left (by rw [List.length_set]; omega)]
    by_cases q : x = a - 1
    · subst q
      rw [if_pos rfl, List.getElem?_set_self (by omega)]
    · rw [if_neg q, if_pos hs, List.getElem?_set_ne (fun h => q h.symm), List.getElem?_take_of_lt hs, List.getElem?_eq_getElem hx]
  · rw [gapF_high (by omega) hs, if_neg (by omega), if_neg (by omega), List.getElem?_append_right (by rw [List.length_set]; omega), List.length_set, hlen]
    obtain ⟨j, rfl⟩ : ∃ j, x = e + 1 + j := ⟨x - (e + 1), by omega⟩
    rw [show e + 1 + j - (e + 1 - a) - a = j by omega]
    exact segN_get (f := fun _ r => if (e : Int) < r.kind then r.kind - ((e : Int) - (a : Int)) - 1 else r.kind) (ts.length - (e + 1)) (by omega) j (by omega) ts[e + 1 + j] (List.getElem?_eq_getElem hx)

theorem joinC_len (ha1 : 1 ≤ a) (hae : a < e) (he : e < ts.length) : (joinC ts a e t u).length + (e + 1 - a) = ts.length := by
  unfold joinC
  rw [List.length_append, List.length_set, List.length_take, segN_len _ (by omega)]
  omega

end

section

variable {ts : List Tk} {a : Nat} {t u : Tk}

theorem text_leaf (hT : TreeP ts) {k x : Nat} (hx : x < ts.length) (hk : ts[k]? = some u) (hu : u.name.size = 0) : ¬ parI ts x = (k : Int) := by
  intro hp
  rcases hT.up x hx with h0 | ⟨p, _, ep, hel⟩
  · subst h0
    rw [hT.2.2.1] at hp
    omega
  · have : p = k := by omega
    subst this
    obtain ⟨h1, h2⟩ := hel
    rw [List.getElem?_eq_getElem h1] at hk
    rw [Option.some.inj hk] at h2
    exact h2 hu

theorem gap_join (hT : TreeP ts) (ha : a < ts.length) (ha1 : 1 ≤ a) (ht : ts[a - 1]? = some t) (hu : ts[endN ts a]? = some u) (hu0 : u.name.size = 0) (hU : TreeP (joinC ts a (endN ts a) t u)) : Gap ts (joinC ts a (endN ts a) t u) a (endN ts a + 1) := by
  have hle := endN_le ha
  have hen : endN ts a < ts.length := by
    rcases Nat.lt_or_ge (endN ts a) ts.length with h' | h'
    · exact h'
    · rw [List.getElem?_eq_none h'] at hu; cases hu
  have hget := fun x (hx : x < ts.length) (hs : stays a (endN ts a + 1) x) => joinC_get (t := t) (u := u) ha1 hle.1 hen hx hs
  have htt : ∀ x (hx : x < ts.length), x = a - 1 → ts[x] = t := fun x hx q => by
    subst q
    rw [List.getElem?_eq_getElem hx] at ht
    exact Option.some.inj ht
  refine ⟨hT, hU, by omega, by omega, ha1, joinC_len ha1 hle.1 hen, fun x hx hs => ?_, fun x hx hs => ?_, fun x hx hs => ?_, fun x hx hs => ?_⟩
  · rw [nodeAt_some (hget x hx hs), nodeAt_at hx]
    split
    · rename_i q
      rw [htt x hx q]
    · split <;> rfl
  · rw [nodeAt_some (hget x hx hs), nodeAt_at hx]
    split
    · rename_i q
      rw [htt x hx q]
    · split <;> rfl
  · rw [parI_some (hget x hx hs), parI_at hx]
    have hl := low_kind hT hx
    rw [parI_at hx] at hl
    split
    · rename_i q
      have h2 := htt x hx q
      rw [h2] at hl ⊢
      rw [if_neg (by omega)]
    · split
      · rw [if_neg (by omega)]
      · show (if ((endN ts a : Nat) : Int) < ts[x].kind then ts[x].kind - (((endN ts a : Nat) : Int) - (a : Int)) - 1 else ts[x].kind) = _
        by_cases q : ((endN ts a : Nat) : Int) < ts[x].kind
        · rw [if_pos q, if_pos (by omega)]; omega
        · rw [if_neg q, if_neg (by omega)]
  · rcases hs with hs | hs
    · left
      have := low_kind hT hx
      omega
    · have h1 := out_kind hT ha (show endN ts a ≤ x by omega) hx
      have h2 := text_leaf hT hx hu hu0
      omega

/-- Two texts that stand side by side once the branch is gone. -/
theorem pairs_join {us : List Tk} {e : Nat} {φ : Nat → Nat} {D : Nat → Prop} (hae : a ≤ e) (ha1 : 1 ≤ a) (hD : ∀ x, x < ts.length → (x < a ∨ e ≤ x) → ¬ x = a - 1 → ¬ x = e → D x) (hφ : φ (a - 1) = a - 1)
    (hn : (nodeAt ts (a - 1)).name.size = 0 ∧ (nodeAt ts e).name.size = 0 ∧ (nodeAt us (a - 1)).name.size = 0) (hp : plainL (nodeAt ts (a - 1)).text.data.toList = true ∧ plainL (nodeAt ts e).text.data.toList = true) (ht : (nodeAt us (a - 1)).text = (nodeAt ts (a - 1)).text ++ (nodeAt ts e).text) (hea : a < e) :
    ∀ l : List Nat, l.Pairwise (· < ·) → (∀ x ∈ l, x < ts.length ∧ (x < a ∨ e ≤ x) ∧ ¬ x = a) → (a - 1 ∈ l ↔ e ∈ l) → Pairs ts us (a : Int) (-1) φ D l ((l.filter fun x => decide (¬ x = e)).map φ)
  | [], _, _, _ => .nil
  | x :: l, hs, hl, hm => by
    have hx := hl x (by simp)
    rw [List.pairwise_cons] at hs
    by_cases q1 : x = a - 1
    · have he : e ∈ l := by
        have h1 := hm.1 (by rw [q1]; simp)
        rcases List.mem_cons.1 h1 with h2 | h2
        · omega
        · exact h2
      match l, he, hs, hl, hm with
      | y :: l', he, hs, hl, hm =>
        have hs2 := hs.2
        rw [List.pairwise_cons] at hs2
        have hy := hl y (by simp)
        have hxy := hs.1 y (by simp)
        have hye : y = e := by
          rcases List.mem_cons.1 he with h2 | h2
          · exact h2.symm
          · have := hs2.1 e h2
            omega
        subst hye
        rw [q1, List.filter_cons_of_pos (by rw [decide_eq_true]; omega), List.filter_cons_of_neg (by simp), List.map_cons, hφ]
        refine .two ⟨by omega, by omega, by omega⟩ hn hp ht (pairs_join hae ha1 hD hφ hn hp ht hea l' hs2.2 (fun z hz => hl z (by simp [hz])) ?_)
        constructor
        · intro h1
          have := hs2.1 _ h1
          omega
        · intro h1
          have := hs2.1 _ h1
          omega
    · by_cases q2 : x = e
      · have h1 := hm.2 (by rw [q2]; simp)
        rcases List.mem_cons.1 h1 with h2 | h2
        · omega
        · have := hs.1 _ h2
          omega
      · rw [List.filter_cons_of_pos (by rw [decide_eq_true]; exact q2), List.map_cons]
        refine .one (hD x hx.1 hx.2.1 q1 q2) (pairs_join hae ha1 hD hφ hn hp ht hea l hs.2 (fun z hz => hl z (by simp [hz])) ?_)
        constructor
        · intro h1
          rcases List.mem_cons.1 (hm.1 (by simp [h1])) with h2 | h2
          · exact absurd h2.symm q2
          · exact h2
        · intro h1
          rcases List.mem_cons.1 (hm.2 (by simp [h1])) with h2 | h2
          · exact absurd h2.symm q1
          · exact h2

theorem kids_up (k : Nat) : (kidsN ts k).Pairwise (· < ·) := by
  unfold kidsN kidsTo
  exact List.Pairwise.filter _ List.pairwise_lt_range

theorem mem_kids {k x : Nat} : x ∈ kidsN ts k ↔ x < ts.length ∧ k < x ∧ parI ts x = (k : Int) := by
  unfold kidsN kidsTo
  rw [List.mem_filter, List.mem_range]
  simp

theorem text_plain (hT : TreeP ts) {k : Nat} (hk : k < ts.length) (h0 : (nodeAt ts k).name.size = 0) : plainL (nodeAt ts k).text.data.toList = true := by
  obtain ⟨⟨h1, h2⟩, _⟩ := hT.2.2.2.2 k hk
  rw [nodeAt_at hk] at h0 ⊢
  unfold nodeB at h2
  rw [if_pos h0] at h2
  unfold textB at h2
  simp only [Bool.and_eq_true] at h2
  exact h2.2.1

/-- Two texts are joined. -/
theorem canon_join (hT : TreeP ts) (ha : a < ts.length) (ha1 : 1 ≤ a) (ht : ts[a - 1]? = some t) (hu : ts[endN ts a]? = some u) (ht0 : t.name.size = 0) (hu0 : u.name.size = 0) (hk : t.kind = cutF a (endN ts a) u) (hU : TreeP (joinC ts a (endN ts a) t u)) {i : Nat} (hi : i < a) (hel : ¬ (nodeAt ts i).name.size = 0) (f : Nat) (sd : List At) :
    canonN ts (a : Int) f i sd = canonN (joinC ts a (endN ts a) t u) (-1) f i sd := by
  have g := gap_join hT ha ha1 ht hu hu0 hU
  have hle := endN_le ha
  have hen : endN ts a < ts.length := by have := g.hn; omega
  have n1 := nodeAt_some ht
  have n2 := nodeAt_some hu
  have p1 := parI_some ht
  have p2 := parI_some hu
  have hkk : t.kind = u.kind := by
    have := low_kind hT hen
    rw [hk]
    unfold cutF
    rw [if_neg (by omega)]
  have n3 := nodeAt_some (joinC_get (t := t) (u := u) ha1 hle.1 hen (x := a - 1) (by omega) (.inl (by omega)))
  rw [if_pos rfl, gapF_low (by omega)] at n3
  have key := canon_pairs (ts := ts) (us := joinC ts a (endN ts a) t u) (but := (a : Int)) (but' := -1) (gapF a (endN ts a + 1)) (fun x => (x < ts.length ∧ stays a (endN ts a + 1) x) ∧ ¬ x = a - 1) ?_ ?_ ?_ f i sd ⟨⟨by omega, .inl hi⟩, fun q => by
    subst q
    rw [n1] at hel
    exact hel ht0⟩
  · rw [key, gapF_low hi]
  · intro x hx
    refine g.kept.alike hx.1 (g.name x hx.1.1 hx.1.2) ?_
    rw [nodeAt_some (joinC_get (t := t) (u := u) ha1 hle.1 hen hx.1.1 hx.1.2), nodeAt_at hx.1.1, if_neg hx.2]
    split <;> rfl
  · intro x hx
    refine ⟨?_, by omega⟩
    have := hx.1.2
    unfold stays at this
    omega
  · intro x hx _
    rw [notB_none, g.kids hx.1.1 hx.1.2]
    have hsx : stays a (endN ts a) x := by
      have := hx.1.2
      unfold stays at this ⊢
      omega
    have ef : (kidsN ts x).filter (fun y => decide (stays a (endN ts a + 1) y)) = ((kidsN ts x).filter (notB (a : Int))).filter (fun y => decide (¬ y = endN ts a)) := by
      rw [List.filter_filter]
      refine List.filter_congr fun y hy => ?_
      unfold notB
      by_cases q : y = a
      · subst q
        rw [decide_eq_false (show ¬ stays y (endN ts y + 1) y by unfold stays; omega), decide_eq_true (show ((y : Nat) : Int) = (y : Int) from rfl)]
        simp
      · have h1 := kid_in hT ha hsx hy q
        rw [decide_eq_false (show ¬ ((y : Nat) : Int) = (a : Int) by omega)]
        simp only [Bool.not_false, Bool.and_true]
        apply decide_eq_decide.2
        unfold stays at h1 ⊢
        omega
    rw [ef]
    refine pairs_join (e := endN ts a) (Nat.le_of_lt hle.1) ha1 ?_ (gapF_low (by omega)) ?_ ?_ ?_ hle.1 _ (List.Pairwise.filter _ (kids_up x)) ?_ ?_
    · intro y h1 h2 h3 h4
      exact ⟨⟨h1, by unfold stays; omega⟩, h3⟩
    · rw [n1, n2, n3]
      exact ⟨ht0, hu0, ht0⟩
    · exact ⟨text_plain hT (by omega) (by rw [n1]; exact ht0), text_plain hT hen (by rw [n2]; exact hu0)⟩
    · rw [n1, n2, n3]
    · intro y hy
      obtain ⟨h1, h2⟩ := List.mem_filter.1 hy
      have hya : ¬ y = a := by
        unfold notB at h2
        simp only [Bool.not_eq_true', decide_eq_false_iff_not] at h2
        omega
      exact ⟨kidsN_lt h1, kid_in hT ha hsx h1 hya, hya⟩
    · have hb : ∀ y, ¬ y = a → (y ∈ (kidsN ts x).filter (notB (a : Int)) ↔ y ∈ kidsN ts x) := fun y hy => by
        rw [List.mem_filter]
        refine ⟨fun h => h.1, fun h => ⟨h, ?_⟩⟩
        unfold notB
        rw [decide_eq_false (by omega)]
        rfl
      rw [hb _ (by omega), hb _ (by omega), mem_kids, mem_kids, p1, p2, hkk]
      have l1 := low_kind hT (show a - 1 < ts.length by omega)
      have l2 := low_kind hT hen
      rw [p1, hkk] at l1
      rw [p2] at l2
      constructor
      · rintro ⟨_, _, h⟩
        exact ⟨hen, by omega, h⟩
      · rintro ⟨_, _, h⟩
        exact ⟨by omega, by omega, h⟩

/-- A tree without a branch is written as the whole is but for it. -/
theorem canon_cut (hT : TreeP ts) (ha : a < ts.length) (ha1 : 1 ≤ a) (hU : TreeP (cutL ts a (endN ts a))) {i : Nat} (hi : i < a) (hel : ¬ (nodeAt ts i).name.size = 0) (f : Nat) (sd : List At) :
    canonN ts (a : Int) f i sd = canonN (cutL ts a (endN ts a)) (-1) f i sd := by
  cases hs : sideB ts a (endN ts a) with
  | false =>
    rw [cutL_no hs] at hU ⊢
    exact canon_out hT ha ha1 hU hi f sd
  | true =>
    have hs' := hs
    unfold sideB at hs'
    split at hs'
    · rename_i t u ht hu
      rw [cutL_yes hs ht hu] at hU ⊢
      simp only [Bool.and_eq_true, decide_eq_true_eq] at hs'
      exact canon_join hT ha ha1 ht hu hs'.2.1 hs'.1 hs'.2.2 hU hi hel f sd
    · cases hs'

end

end Go.Proofs.YteninofjeidljaaGreat

namespace Go.Proofs.YteninofjeidljaaGreat

open Go.RowKit

set_option linter.unusedVariables false

section

variable {ts us : List Tk} {a h : Nat}

theorem Gap0.from (g : Gap0 ts us a h) {m : Nat} (hm : m < us.length) : ∃ i, i < ts.length ∧ stays a h i ∧ gapF a h i = m := by
  have := g.len
  have ha := g.ah
  have := g.hn
  by_cases q : m < a
  · exact ⟨m, by omega, .inl q, gapF_low q⟩
  · refine ⟨m + (h - a), by omega, .inr (by omega), ?_⟩
    rw [gapF_high ha (by omega)]
    omega

theorem Gap0.below (g : Gap0 ts us a h) {x : Nat} (hx : x < ts.length) (hs : stays a h x) : gapF a h x < us.length := by
  have := g.len
  have := g.ah
  have := g.hn
  rcases hs with hs | hs
  · rw [gapF_low hs]; omega
  · rw [gapF_high g.ah hs]; omega

theorem Gap0.el (g : Gap0 ts us a h) {x : Nat} (hs : stays a h x) (he : elN ts x) : elN us (gapF a h x) := by
  obtain ⟨h1, h2⟩ := he
  refine ⟨g.below h1 hs, ?_⟩
  have := g.name x h1 hs
  rw [nodeAt_at (g.below h1 hs), nodeAt_at h1] at this
  rw [this]
  exact h2

/-- It is a tree. -/
theorem Gap0.treeU (g : Gap0 ts us a h) (hnode : ∀ m, m < us.length → nodeB (nodeAt us m) = true) (htw : ∀ m, ¬ TwinAt us m) : TreeP us := by
  have hl := g.len
  have ha := g.ah
  have hh := g.hn
  have h1 := g.one
  have hT := g.tree
  have e0 : gapF a h 0 = 0 := gapF_low (by omega)
  refine ⟨by omega, by have := hT.2.1; omega, ?_, ?_, fun m hm => ?_⟩
  · have := g.par 0 (by omega) (.inl (by omega))
    rw [e0, hT.2.2.1, if_neg (by omega)] at this
    exact this
  · have := g.el (x := 0) (.inl (by omega)) hT.2.2.2.1
    rw [e0] at this
    exact this
  · obtain ⟨i, hi, hs, rfl⟩ := g.from hm
    obtain ⟨c1, c2, c3⟩ := g.chain (i + 1) i (by omega) hi hs
    refine ⟨⟨hm, ?_⟩, ?_, ?_, htw _⟩
    · have := hnode _ hm
      rw [nodeAt_at hm] at this
      exact this
    · by_cases h0 : i = 0
      · subst h0
        exact .inl e0
      · obtain ⟨p, _, ep, hp, hsp, hel⟩ := c3 h0
        exact .inr ⟨gapF a h p, hp, ep.symm, g.el hsp hel⟩
    · rw [c1, List.length_map]
      exact (hT.2.2.2.2 i hi).2.2.1

/-- Texts that meet there met here, but over the gap. -/
theorem Gap0.twin (g : Gap0 ts us a h) {m : Nat} (ht : TwinAt us m) : ∃ i, i < ts.length ∧ i = h ∧ stays a h i ∧ gapF a h i = m ∧ (nodeAt ts (a - 1)).name.size = 0 ∧ (nodeAt ts i).name.size = 0 ∧ parI ts (a - 1) = parI ts i := by
  have ha := g.ah
  have h1 := g.one
  obtain ⟨hm, h0, n1, n2, kk⟩ := ht
  obtain ⟨i, hi, hs, rfl⟩ := g.from hm
  have hi0 : ¬ i = 0 := fun q => by
    subst q
    rw [gapF_low (show 0 < a by omega)] at h0
    omega
  have en := g.name i hi hs
  rw [nodeAt_at hm] at en
  rw [en] at n1
  have hm1 : gapF a h i - 1 < us.length := by omega
  obtain ⟨b, hb1, hb2, hb3⟩ : ∃ b, b < ts.length ∧ stays a h b ∧ gapF a h b = gapF a h i - 1 ∧ (i = h ∧ b = a - 1 ∨ b = i - 1) := by
    by_cases q : i = h
    · refine ⟨a - 1, by omega, .inl (by omega), ?_, .inl ⟨q, rfl⟩⟩
      rw [q, gapF_high ha (Nat.le_refl _), gapF_low (by omega)]
      omega
    · refine ⟨i - 1, by omega, by unfold stays at hs ⊢; omega, ?_, .inr rfl⟩
      rcases hs with hs | hs
      · rw [gapF_low hs, gapF_low (by omega)]
      · rw [gapF_high ha hs, gapF_high ha (by omega)]; omega
  have eb := g.name b hb1 hb2
  rw [hb3.1, nodeAt_at hm1] at eb
  rw [eb] at n2
  have k1 := g.par i hi hs
  have k2 := g.par b hb1 hb2
  have o1 := g.out i hi hs
  have o2 := g.out b hb1 hb2
  rw [parI_at hm] at k1
  rw [hb3.1, parI_at hm1] at k2
  have ek : parI ts b = parI ts i := by
    rw [kk, k1] at k2
    by_cases q1 : (h : Int) ≤ parI ts i
    · rw [if_pos q1] at k2
      by_cases q2 : (h : Int) ≤ parI ts b
      · rw [if_pos q2] at k2; omega
      · rw [if_neg q2] at k2; omega
    · rw [if_neg q1] at k2
      by_cases q2 : (h : Int) ≤ parI ts b
      · rw [if_pos q2] at k2; omega
      · rw [if_neg q2] at k2; omega
  rcases hb3.2 with ⟨q, e⟩ | e
  · subst e
    exact ⟨i, hi, q, hs, rfl, n2, n1, ek⟩
  · exfalso
    subst e
    refine (g.tree.2.2.2.2 i hi).2.2.2 ⟨hi, by omega, ?_, ?_, ?_⟩
    · rw [nodeAt_at hi] at n1
      exact n1
    · rw [nodeAt_at hb1] at n2
      exact n2
    · rw [parI_at hb1, parI_at hi] at ek
      exact ek

end

section

variable {ts : List Tk} {a : Nat}

/-- The first behind a branch has its parent above what stands ahead of the branch. -/
theorem up_first (hT : TreeP ts) (ha : a < ts.length) (ha1 : 1 ≤ a) (hen : endN ts a < ts.length) : ∃ p : Nat, parI ts (endN ts a) = (p : Int) ∧ p < a ∧ p ∈ chainF ts a := by
  have hle := endN_le ha
  rcases hT.up (endN ts a) hen with h' | ⟨p, hp, ep, _⟩
  · omega
  have hlt : p < a := by
    rcases endN_stop ha with h' | h'
    · omega
    · omega
  refine ⟨p, ep.symm, hlt, ?_⟩
  have e := chain_branch hT ha (endN ts a - 1 - a) (by omega)
  rw [show a + (endN ts a - 1 - a) + 1 = endN ts a by omega] at e
  rw [e] at hp
  rcases List.mem_append.1 hp with h' | h'
  · obtain ⟨x, _, rfl⟩ := List.mem_map.1 h'
    omega
  · exact (List.dropWhile_sublist _).subset h'

end

end Go.Proofs.YteninofjeidljaaGreat
