/- What is told as tokens grows again, and what has grown is told as the same tokens (plain mathematics of promise 8). TokensOf of what has grown are the tokens (plain mathematics of promise 8). -/
import Derived.Test.YtcjeodgfpnecgaaM26
import Derived.Test.YtcjeodgfpnecgaaM12
namespace Go.Proofs.Ytcjeodgfpnecgaa
set_option linter.unusedVariables false

theorem ba_empty {s : ByteArray} (h : s.size = 0) : s = ⟨#[]⟩ := by
  apply ByteArray.ext
  exact Array.eq_empty_of_size_eq_zero h

theorem node_el {ts : List Tk} (h : TreeP ts) {k : Nat} (hk : k < ts.length) (he : ¬ ts[k].name.size = 0) : ts[k] = ⟨parI ts k, ts[k].name, ts[k].attrs, ⟨#[]⟩⟩ ∧ tokB (opT ts[k]) = true ∧ tokB (clT ts[k]) = true := by
  obtain ⟨⟨_, hb⟩, _⟩ := h.2.2.2.2 k hk
  rw [nodeB_el he] at hb
  simp only [Bool.and_eq_true, decide_eq_true_eq] at hb
  obtain ⟨h1, h2, h3⟩ := hb
  refine ⟨?_, ?_, ?_⟩
  · rw [parI_at hk]
    have := ba_empty h3
    cases e : ts[k] with
    | mk a b c d =>
      rw [e] at this
      simp only at this
      rw [this]
  · unfold tokB opT
    simp [h1, h2, show (⟨#[]⟩ : ByteArray).size = 0 from rfl]
  · unfold tokB clT
    simp [h1, show (⟨#[]⟩ : ByteArray).size = 0 from rfl]

theorem node_tx {ts : List Tk} (h : TreeP ts) {k : Nat} (hk : k < ts.length) (he : ts[k].name.size = 0) : ts[k] = ⟨parI ts k, ⟨#[]⟩, [], ts[k].text⟩ ∧ tokB (txT ts[k]) = true ∧ endN ts k = k + 1 ∧ ¬ k = 0 := by
  obtain ⟨⟨_, hb⟩, _⟩ := h.2.2.2.2 k hk
  rw [nodeB_tx he] at hb
  simp only [Bool.and_eq_true, decide_eq_true_eq] at hb
  obtain ⟨h1, h2⟩ := hb
  refine ⟨?_, ?_, ?_, fun e => ?_⟩
  · rw [parI_at hk]
    have e1 := ba_empty he
    have e2 : ts[k].attrs = [] := List.eq_nil_of_length_eq_zero h1
    cases e : ts[k] with
    | mk a b c d =>
      rw [e] at e1 e2
      simp only at e1 e2
      rw [e1, e2]
  · unfold tokB txT
    simp [h2, show (⟨#[]⟩ : ByteArray).size = 0 from rfl]
  · have hle := endN_le hk
    rcases Nat.lt_or_eq_of_le (show k + 1 ≤ endN ts k by omega) with h' | h'
    · exfalso
      have hp := first_kid h hk h'
      rcases h.up (k + 1) (by omega) with h0 | ⟨p, _, e, hpn, hne⟩
      · omega
      · have : p = k := by omega
        subst this
        exact hne he
    · exact h'.symm
  · subst e
    obtain ⟨_, hne⟩ := h.2.2.2.1
    exact hne he

theorem kidsTo_from {ts : List Tk} {k e : Nat} (he : k < e) : kidsTo ts k e = kidsFrom ts k (k + 1) e := by
  unfold kidsTo kidsFrom
  have e1 : List.range e = List.range' 0 (k + 1) ++ List.range' (k + 1) (e - (k + 1)) := by
    have := List.range'_append_1 (s := 0) (m := k + 1) (n := e - (k + 1))
    rw [Nat.zero_add, show k + 1 + (e - (k + 1)) = e by omega] at this
    rw [this, List.range_eq_range']
  rw [e1, List.filter_append]
  have e2 : (List.range' 0 (k + 1)).filter (fun i => decide (k < i) && decide (parI ts i = (k : Int))) = [] := by
    rw [List.filter_eq_nil_iff]
    intro i hi
    rw [List.mem_range'_1] at hi
    simp
    omega
  rw [e2, List.nil_append]
  refine List.filter_congr fun i hi => ?_
  rw [List.mem_range'_1] at hi
  have : decide (k < i) = true := decide_eq_true (by omega)
  rw [this, Bool.true_and]

theorem take_node {ts : List Tk} {k : Nat} (hk : k < ts.length) {t : Tk} (h : ts[k] = t) : ts.take k ++ [t] = ts.take (k + 1) := by rw [take_snocN hk, h]

/-- What a node has been told as grows again. -/
theorem grow_sub {ts : List Tk} (h : TreeP ts) : ∀ f k, k < ts.length → ts.length - k ≤ f → ∀ rest, gRun (tokN ts f k ++ rest) ⟨ts.take k, parI ts k, false⟩ = gRun rest ⟨ts.take (endN ts k), parI ts k, decide (k = 0)⟩
  | 0, k, hk, hf, rest => by omega
  | f + 1, k, hk, hf, rest => by
    have hle := endN_le hk
    have hlk : (ts.take k).length = k := by rw [List.length_take]; omega
    unfold tokN
    rw [nodeAt_at hk]
    by_cases he : ts[k].name.size = 0
    · obtain ⟨n1, n2, n3, n4⟩ := node_tx h hk he
      rw [if_pos he, List.singleton_append, gRun_step (gStep_three n2 rfl rfl), n3]
      simp only [txT]
      rw [take_node hk n1, show decide (k = 0) = false from decide_eq_false n4]
    · obtain ⟨n1, n2, n3⟩ := node_el h hk he
      rw [if_neg he, List.cons_append, gRun_step (gStep_one n2 rfl rfl)]
      simp only [opT]
      rw [take_node hk n1, hlk, List.append_assoc]
      have key : ∀ d e i, endN ts k - e ≤ d → FamAt ts k i e → ∀ rest, gRun ((kidsFrom ts k e (endN ts k)).flatMap (tokN ts f) ++ rest) ⟨ts.take e, (k : Int), false⟩ = gRun rest ⟨ts.take (endN ts k), (k : Int), false⟩ := by
        intro d
        induction d with
        | zero =>
          intro e i hd fa rest
          have : e = endN ts k := by have := fa.hi; omega
          rw [this, kidsFrom_none (fun i g1 g2 => by omega)]
          rfl
        | succ d ih =>
          intro e i hd fa rest
          rcases Nat.lt_or_eq_of_le fa.hi with h' | h'
          · have hlo := fa.lo
            have hp := fa.kid h'
            have hel := endN_le (ts := ts) (k := e) (by omega)
            have hi : i < (kidsN ts k).length := by
              rcases Nat.lt_or_ge i (kidsN ts k).length with q | q
              · exact q
              · exfalso
                have hr := fa.rest
                rw [List.drop_of_length_le q, fam_one h hk hlo h' hp] at hr
                cases hr
            have st := (fa.step h hk hi).2.2.2
            rw [fam_one h hk hlo h' hp, List.flatMap_cons, List.append_assoc]
            have := grow_sub h f e (by omega) (by omega) ((kidsFrom ts k (endN ts e) (endN ts k)).flatMap (tokN ts f) ++ rest)
            rw [hp, show decide (e = 0) = false from decide_eq_false (by omega)] at this
            rw [this]
            exact ih (endN ts e) (i + 1) (by omega) st rest
          · rw [h', kidsFrom_none (fun i g1 g2 => by omega)]
            rfl
      rw [kidsTo_from hle.1, key (endN ts k - (k + 1)) (k + 1) 0 (Nat.le_refl _) (fam_start h hk), List.singleton_append]
      have hkt : k < (ts.take (endN ts k)).length := by rw [List.length_take]; omega
      have hna : nodeAt (ts.take (endN ts k)) k = ts[k] := by rw [nodeAt_at hkt, List.getElem_take]
      have hpa : parI (ts.take (endN ts k)) k = parI ts k := by rw [parI_at hkt, parI_at hk, List.getElem_take]
      rw [gRun_step (gStep_two n3 rfl rfl (by show ¬ (k : Int) < 0; omega) (by show (nodeAt (ts.take (endN ts k)) (k : Int).toNat).name = ts[k].name; rw [Int.toNat_natCast, hna]))]
      simp only [Int.toNat_natCast]
      rw [hpa, show decide ((k : Int) = 0) = decide (k = 0) from by rw [decide_eq_decide]; omega]

theorem tree_end {ts : List Tk} (h : TreeP ts) : endN ts 0 = ts.length := by
  have h1 := h.1
  refine endN_is (by omega) (Nat.le_refl _) (fun j g1 g2 => ?_) (.inl rfl)
  rcases h.up j g2 with h0 | ⟨p, _, e, _⟩
  · omega
  · rw [← e]
    omega

/-- Grown of TokensOf is the tree. -/
theorem grown_toks {ts : List Tk} (h : TreeP ts) : grownT (tokN ts ts.length 0) = some ts := by
  have h1 := h.1
  have e := grow_sub h ts.length 0 (by omega) (by omega) []
  rw [List.append_nil, h.2.2.1, tree_end h, List.take_zero, List.take_length] at e
  have e2 : gRun [] ⟨ts, -1, decide (0 = 0)⟩ = some ⟨ts, -1, true⟩ := rfl
  rw [e2] at e
  rw [grownT_end e]
  exact if_pos ⟨rfl, treeB_t h⟩

end Go.Proofs.Ytcjeodgfpnecgaa

namespace Go.Proofs.Ytcjeodgfpnecgaa
set_option linter.unusedVariables false

theorem nameL_nil : nameL [] = false := by decide

theorem name_ne {s : ByteArray} (h : nameL s.data.toList = true) : ¬ s.size = 0 := by
  intro e
  rw [ba_empty e] at h
  have : nameL [] = true := h
  rw [nameL_nil] at this
  cases this

/-- A right token, by its kind. -/
theorem tok_form {k : Tk} (h : tokB k = true) : (k = opT k ∧ ¬ k.name.size = 0) ∨ k = clT k ∨ k = txT k := by
  unfold tokB at h
  obtain ⟨a, b, c, d⟩ := k
  simp only at h
  split at h
  · rename_i e
    simp only [Bool.and_eq_true, decide_eq_true_eq] at h
    have e2 := ba_empty h.2.2
    subst e e2
    exact .inl ⟨rfl, name_ne h.1⟩
  · split at h
    · rename_i e
      simp only [Bool.and_eq_true, decide_eq_true_eq] at h
      have e2 := ba_empty h.2.2
      have e3 : c = [] := List.eq_nil_of_length_eq_zero h.2.1
      subst e e2 e3
      exact .inr (.inl rfl)
    · split at h
      · rename_i e
        simp only [Bool.and_eq_true, decide_eq_true_eq] at h
        have e2 := ba_empty h.1
        have e3 : c = [] := List.eq_nil_of_length_eq_zero h.2.1
        subst e e2 e3
        exact .inr (.inr rfl)
      · cases h

theorem gStep_cases {s s2 : GSt} {k : Tk} (h : gStep s k = some s2) : s.done = false ∧
    ((k = opT k ∧ ¬ k.name.size = 0 ∧ s2 = ⟨s.out ++ [⟨s.at_, k.name, k.attrs, ⟨#[]⟩⟩], (s.out.length : Int), false⟩) ∨ (k = txT k ∧ s2 = ⟨s.out ++ [⟨s.at_, ⟨#[]⟩, [], k.text⟩], s.at_, false⟩)
      ∨ (k = clT k ∧ ¬ s.at_ < 0 ∧ (nodeAt s.out s.at_.toNat).name = k.name ∧ s2 = ⟨s.out, parI s.out s.at_.toNat, decide (s.at_ = 0)⟩)) := by
  cases q : tokB k
  · rw [gStep_no (.inl q)] at h
    cases h
  · cases d : s.done
    · refine ⟨rfl, ?_⟩
      rcases tok_form q with ⟨e, ne⟩ | e | e
      · rw [gStep_one q d (by rw [e]; rfl)] at h
        cases h
        exact .inl ⟨e, ne, rfl⟩
      · have ek : k.kind = 2 := by rw [e]; rfl
        by_cases hh : s.at_ < 0 ∨ ¬ (nodeAt s.out s.at_.toNat).name = k.name
        · rw [gStep_no2 ek hh] at h
          cases h
        · have h1 : ¬ s.at_ < 0 := fun x => hh (.inl x)
          have h2 : (nodeAt s.out s.at_.toNat).name = k.name := by
            by_cases x : (nodeAt s.out s.at_.toNat).name = k.name
            · exact x
            · exact absurd (.inr x) hh
          rw [gStep_two q d ek h1 h2] at h
          cases h
          exact .inr (.inr ⟨e, h1, h2, rfl⟩)
      · rw [gStep_three q d (by rw [e]; rfl)] at h
        cases h
        exact .inr (.inl ⟨e, rfl⟩)
    · rw [gStep_no (.inr d)] at h
      cases h

theorem gStep_inv {s s2 : GSt} {k : Tk} (h : gStep s k = some s2) (hi : GInv s) : GInv s2 := by
  obtain ⟨_, h' | h' | h'⟩ := gStep_cases h
  · rw [h'.2.2]
    exact hi.snoc _ rfl _ _ (by omega) (by omega)
  · rw [h'.2]
    exact hi.snoc _ rfl _ _ hi.lo (by have := hi.hi; omega)
  · rw [h'.2.2.2]
    exact hi.up h'.2.1 _

theorem gRun_cases {l : List Tk} {k : Tk} {s s1 : GSt} (h : gRun (k :: l) s = some s1) : ∃ s2, gStep s k = some s2 ∧ gRun l s2 = some s1 := by
  cases e : gStep s k with
  | none => rw [gRun_bad e] at h; cases h
  | some s2 => exact ⟨s2, rfl, by rw [gRun_step e] at h; exact h⟩

theorem gRun_grow : ∀ (l : List Tk) (s s1 : GSt), gRun l s = some s1 → ∃ t, s1.out = s.out ++ t
  | [], s, s1, h => by cases h; exact ⟨[], (List.append_nil _).symm⟩
  | k :: l, s, s1, h => by
    obtain ⟨s2, h1, h2⟩ := gRun_cases h
    obtain ⟨t, ht⟩ := gRun_grow l s2 s1 h2
    obtain ⟨_, h' | h' | h'⟩ := gStep_cases h1
    · rw [h'.2.2] at ht
      exact ⟨_ :: t, by rw [ht, List.append_assoc]; rfl⟩
    · rw [h'.2] at ht
      exact ⟨_ :: t, by rw [ht, List.append_assoc]; rfl⟩
    · rw [h'.2.2.2] at ht
      exact ⟨t, ht⟩

/-- The next node that grows is in what is open now, or further out. -/
theorem next_par : ∀ (l : List Tk) (s s1 : GSt), GInv s → gRun l s = some s1 → ∀ h : s.out.length < s1.out.length, s1.out[s.out.length].kind ≤ s.at_
  | [], s, s1, _, h, hl => by cases h; omega
  | k :: l, s, s1, hi, h, hl => by
    obtain ⟨s2, h1, h2⟩ := gRun_cases h
    obtain ⟨t, ht⟩ := gRun_grow l s2 s1 h2
    have hi2 := gStep_inv h1 hi
    obtain ⟨_, h' | h' | h'⟩ := gStep_cases h1
    · rw [h'.2.2] at ht
      have e : s1.out[s.out.length]? = some ⟨s.at_, k.name, k.attrs, ⟨#[]⟩⟩ := by rw [ht]; simp
      rw [List.getElem?_eq_getElem hl] at e
      rw [Option.some.inj e]
      exact Int.le_refl _
    · rw [h'.2] at ht
      have e : s1.out[s.out.length]? = some ⟨s.at_, ⟨#[]⟩, [], k.text⟩ := by rw [ht]; simp
      rw [List.getElem?_eq_getElem hl] at e
      rw [Option.some.inj e]
      exact Int.le_refl _
    · have e2 := h'.2.2.2
      have hk : s.at_.toNat < s.out.length := by have := hi.hi; have := h'.2.1; omega
      have hp := (hi.par _ hk).2
      have hlen : s2.out = s.out := by rw [e2]
      have ha : s2.at_ = parI s.out s.at_.toNat := by rw [e2]
      have := next_par l s2 s1 hi2 h2 (by rw [hlen]; exact hl)
      simp only [hlen] at this
      rw [ha, parI_at hk] at this
      have := h'.2.1
      omega

/-- Two lists of tokens from which the same grows are one. -/
theorem grow_inj : ∀ (l l' : List Tk) (s s1 s1' : GSt), GInv s → gRun l s = some s1 → gRun l' s = some s1' → s1.out = s1'.out → s1.done = true → s1'.done = true → l = l'
  | [], [], _, _, _, _, _, _, _, _, _ => rfl
  | [], k' :: l', s, s1, s1', hi, h, h', ho, hd, hd' => by
    cases h
    obtain ⟨s2, h1, _⟩ := gRun_cases h'
    rw [gStep_no (.inr hd)] at h1
    cases h1
  | k :: l, [], s, s1, s1', hi, h, h', ho, hd, hd' => by
    cases h'
    obtain ⟨s2, h1, _⟩ := gRun_cases h
    rw [gStep_no (.inr hd')] at h1
    cases h1
  | k :: l, k' :: l', s, s1, s1', hi, h, h', ho, hd, hd' => by
    obtain ⟨s2, h1, h2⟩ := gRun_cases h
    obtain ⟨s2', h1', h2'⟩ := gRun_cases h'
    obtain ⟨t, ht⟩ := gRun_grow l s2 s1 h2
    obtain ⟨t', ht'⟩ := gRun_grow l' s2' s1' h2'
    have hi2 := gStep_inv h1 hi
    have hi2' := gStep_inv h1' hi
    have go : k = k' → s2 = s2' → k :: l = k' :: l' := fun e1 e2 => by
      subst e1 e2
      rw [grow_inj l l' s2 s1 s1' hi2 h2 h2' ho hd hd']
    -- a node grows on the one side, something is closed on the other
    have no : ∀ (S S2 : GSt) (L : List Tk) (n : Tk), S.out = s1.out → gRun L S2 = some S → GInv S2 → S2.out = s.out → ¬ s.at_ < 0 → S2.at_ = parI s.out s.at_.toNat → s1.out[s.out.length]? = some n → n.kind = s.at_ → False := by
      intro S S2 L n hS hr hI hO h0 hA hn hk
      have hl : s.out.length < s1.out.length := (List.getElem?_eq_some_iff.1 hn).1
      have := next_par L S2 S hI hr (by rw [hO, hS]; exact hl)
      simp only [hO, hS] at this
      rw [List.getElem?_eq_getElem hl] at hn
      rw [Option.some.inj hn, hk, hA] at this
      have hq : s.at_.toNat < s.out.length := by have := hi.hi; omega
      have hp := (hi.par _ hq).2
      rw [parI_at hq] at this
      omega
    obtain ⟨_, g | g | g⟩ := gStep_cases h1 <;> obtain ⟨_, g' | g' | g'⟩ := gStep_cases h1'
    · have e : s1.out[s.out.length]? = some ⟨s.at_, k.name, k.attrs, ⟨#[]⟩⟩ := by rw [ht, g.2.2]; simp
      have e' : s1.out[s.out.length]? = some ⟨s.at_, k'.name, k'.attrs, ⟨#[]⟩⟩ := by rw [ho, ht', g'.2.2]; simp
      rw [e] at e'
      injection e' with e'
      injection e' with _ q1 q2 _
      refine go ?_ ?_
      · rw [g.1, g'.1]; unfold opT; rw [q1, q2]
      · rw [g.2.2, g'.2.2, q1, q2]
    · exfalso
      have e : s1.out[s.out.length]? = some ⟨s.at_, k.name, k.attrs, ⟨#[]⟩⟩ := by rw [ht, g.2.2]; simp
      have e' : s1.out[s.out.length]? = some ⟨s.at_, ⟨#[]⟩, [], k'.text⟩ := by rw [ho, ht', g'.2]; simp
      rw [e] at e'
      injection e' with e'
      injection e' with _ q1 _ _
      exact g.2.1 (by rw [q1]; rfl)
    · exfalso
      have e : s1.out[s.out.length]? = some ⟨s.at_, k.name, k.attrs, ⟨#[]⟩⟩ := by rw [ht, g.2.2]; simp
      exact no s1' s2' l' _ ho.symm h2' hi2' (by rw [g'.2.2.2]) g'.2.1 (by rw [g'.2.2.2]) e rfl
    · exfalso
      have e : s1.out[s.out.length]? = some ⟨s.at_, ⟨#[]⟩, [], k.text⟩ := by rw [ht, g.2]; simp
      have e' : s1.out[s.out.length]? = some ⟨s.at_, k'.name, k'.attrs, ⟨#[]⟩⟩ := by rw [ho, ht', g'.2.2]; simp
      rw [e] at e'
      injection e' with e'
      injection e' with _ q1 _ _
      exact g'.2.1 (by rw [← q1]; rfl)
    · have e : s1.out[s.out.length]? = some ⟨s.at_, ⟨#[]⟩, [], k.text⟩ := by rw [ht, g.2]; simp
      have e' : s1.out[s.out.length]? = some ⟨s.at_, ⟨#[]⟩, [], k'.text⟩ := by rw [ho, ht', g'.2]; simp
      rw [e] at e'
      injection e' with e'
      injection e' with _ _ _ q1
      refine go ?_ ?_
      · rw [g.1, g'.1]; unfold txT; rw [q1]
      · rw [g.2, g'.2, q1]
    · exfalso
      have e : s1.out[s.out.length]? = some ⟨s.at_, ⟨#[]⟩, [], k.text⟩ := by rw [ht, g.2]; simp
      exact no s1' s2' l' _ ho.symm h2' hi2' (by rw [g'.2.2.2]) g'.2.1 (by rw [g'.2.2.2]) e rfl
    · exfalso
      have e : s1.out[s.out.length]? = some ⟨s.at_, k'.name, k'.attrs, ⟨#[]⟩⟩ := by rw [ho, ht', g'.2.2]; simp
      exact no s1 s2 l _ rfl h2 hi2 (by rw [g.2.2.2]) g.2.1 (by rw [g.2.2.2]) e rfl
    · exfalso
      have e : s1.out[s.out.length]? = some ⟨s.at_, ⟨#[]⟩, [], k'.text⟩ := by rw [ho, ht', g'.2]; simp
      exact no s1 s2 l _ rfl h2 hi2 (by rw [g.2.2.2]) g.2.1 (by rw [g.2.2.2]) e rfl
    · refine go ?_ ?_
      · rw [g.1, g'.1]; unfold clT; rw [← g.2.2.1, ← g'.2.2.1]
      · rw [g.2.2.2, g'.2.2.2]

/-- TokensOf of Grown are the tokens. -/
theorem toks_grown {l ts : List Tk} (h : grownT l = some ts) : TreeP ts ∧ tokN ts ts.length 0 = l := by
  unfold grownT at h
  split at h
  · cases h
  · rename_i s hs
    split at h
    · rename_i hh
      cases h
      have ht : TreeP s.out := by
        by_cases q : TreeP s.out
        · exact q
        · rw [treeB_f q] at hh
          cases hh.2
      refine ⟨ht, ?_⟩
      have h1 := ht.1
      have e := grow_sub ht s.out.length 0 (by omega) (by omega) []
      rw [List.append_nil, ht.2.2.1, tree_end ht, List.take_zero, List.take_length] at e
      have e2 : gRun [] ⟨s.out, -1, decide (0 = 0)⟩ = some ⟨s.out, -1, true⟩ := rfl
      rw [e2] at e
      exact grow_inj _ _ _ _ _ GInv.start e hs rfl rfl hh.1
    · cases h

end Go.Proofs.Ytcjeodgfpnecgaa
