/- What is told as tokens grows again, and what has grown is told as the same tokens (plain mathematics of promise 8). -/
import Derived.Test.YtkcmagfbacmllabWFam
import Derived.Test.YtkcmagfbacmllabWGrowM
import Derived.Test.YtkcmagfbacmllabWTreeS
namespace Go.Proofs.Ytkcmagfbacmllab
set_option linter.unusedVariables false

theorem ba_empty {s : ByteArray} (h : s.size = 0) : s = ⟨#[]⟩ := by
  apply ByteArray.ext
  exact Array.eq_empty_of_size_eq_zero h

theorem node_el {ts : List Tk} (h : TreeP ts) {k : Nat} (hk : k < ts.length) (he : ¬ ts[k].name.size = 0) : ts[k] = ⟨parI ts k, ts[k].name, ts[k].attrs, ⟨#[]⟩⟩ ∧ tokB (opT ts[k]) = true ∧ tokB (clT ts[k]) = true := by
  obtain ⟨⟨_, hb⟩, _⟩ := h.2.2.2.2 k hk
  rw [nodeB_el he] at hb
  simp only [Bool.and_eq_true, decide_eq_true_eq] at hb
  obtain ⟨h1, h2, h3⟩ := hb
  refine ⟨?_, ?_, ?_⟩
  · rw [parI_at hk]
    have := ba_empty h3
    cases e : ts[k] with
    | mk a b c d =>
      rw [e] at this
      simp only at this
      rw [this]
  · unfold tokB opT
    simp [h1, h2, show (⟨#[]⟩ : ByteArray).size = 0 from rfl]
  · unfold tokB clT
    simp [h1, show (⟨#[]⟩ : ByteArray).size = 0 from rfl]

theorem node_tx {ts : List Tk} (h : TreeP ts) {k : Nat} (hk : k < ts.length) (he : ts[k].name.size = 0) : ts[k] = ⟨parI ts k, ⟨#[]⟩, [], ts[k].text⟩ ∧ tokB (txT ts[k]) = true ∧ endN ts k = k + 1 ∧ ¬ k = 0 := by
  obtain ⟨⟨_, hb⟩, _⟩ := h.2.2.2.2 k hk
  rw [nodeB_tx he] at hb
  simp only [Bool.and_eq_true, decide_eq_true_eq] at hb
  obtain ⟨h1, h2⟩ := hb
  refine ⟨?_, ?_, ?_, fun e => ?_⟩
  · rw [parI_at hk]
    have e1 := ba_empty he
    have e2 : ts[k].attrs = [] := List.eq_nil_of_length_eq_zero h1
    cases e : ts[k] with
    | mk a b c d =>
      rw [e] at e1 e2
      simp only at e1 e2
      rw [e1, e2]
  · unfold tokB txT
    simp [h2, show (⟨#[]⟩ : ByteArray).size = 0 from rfl]
  · have hle := endN_le hk
    rcases Nat.lt_or_eq_of_le (show k + 1 ≤ endN ts k by omega) with h' | h'
    · exfalso
      have hp := first_kid h hk h'
      rcases h.up (k + 1) (by omega) with h0 | ⟨p, _, e, hpn, hne⟩
      · omega
      · have : p = k := by omega
        subst this
        exact hne he
    · exact h'.symm
  · subst e
    obtain ⟨_, hne⟩ := h.2.2.2.1
    exact hne he

theorem kidsTo_from {ts : List Tk} {k e : Nat} (he : k < e) : kidsTo ts k e = kidsFrom ts k (k + 1) e := by
  unfold kidsTo kidsFrom
  have e1 : List.range e = List.range' 0 (k + 1) ++ List.range' (k + 1) (e - (k + 1)) := by
    have := List.range'_append_1 (s := 0) (m := k + 1) (n := e - (k + 1))
    rw [Nat.zero_add, show k + 1 + (e - (k + 1)) = e by omega] at this
    rw [this, List.range_eq_range']
  rw [e1, List.filter_append]
  have e2 : (List.range' 0 (k + 1)).filter (fun i => decide (k < i) && decide (parI ts i = (k : Int))) = [] := by
    rw [List.filter_eq_nil_iff]
    intro i hi
    rw [List.mem_range'_1] at hi
    simp
    omega
  rw [e2, List.nil_append]
  refine List.filter_congr fun i hi => ?_
  rw [List.mem_range'_1] at hi
  have : decide (k < i) = true := decide_eq_true (by omega)
  rw [this, Bool.true_and]

theorem take_node {ts : List Tk} {k : Nat} (hk : k < ts.length) {t : Tk} (h : ts[k] = t) : ts.take k ++ [t] = ts.take (k + 1) := by rw [take_snocN hk, h]

/-- What a node has been told as grows again. -/
theorem grow_sub {ts : List Tk} (h : TreeP ts) : ∀ f k, k < ts.length → ts.length - k ≤ f → ∀ rest, gRun (tokN ts f k ++ rest) ⟨ts.take k, parI ts k, false⟩ = gRun rest ⟨ts.take (endN ts k), parI ts k, decide (k = 0)⟩
  | 0, k, hk, hf, rest => by omega
  | f + 1, k, hk, hf, rest => by
    have hle := endN_le hk
    have hlk : (ts.take k).length = k := by rw [List.length_take]; omega
    unfold tokN
    rw [nodeAt_at hk]
    by_cases he : ts[k].name.size = 0
    · obtain ⟨n1, n2, n3, n4⟩ := node_tx h hk he
      rw [if_pos he, List.singleton_append, gRun_step (gStep_three n2 rfl rfl), n3]
      simp only [txT]
      rw [take_node hk n1, show decide (k = 0) = false from decide_eq_false n4]
    · obtain ⟨n1, n2, n3⟩ := node_el h hk he
      rw [if_neg he, List.cons_append, gRun_step (gStep_one n2 rfl rfl)]
      simp only [opT]
      rw [take_node hk n1, hlk, List.append_assoc]
      have key : ∀ d e i, endN ts k - e ≤ d → FamAt ts k i e → ∀ rest, gRun ((kidsFrom ts k e (endN ts k)).flatMap (tokN ts f) ++ rest) ⟨ts.take e, (k : Int), false⟩ = gRun rest ⟨ts.take (endN ts k), (k : Int), false⟩ := by
        intro d
        induction d with
        | zero =>
          intro e i hd fa rest
          have : e = endN ts k := by have := fa.hi; omega
          rw [this, kidsFrom_none (fun i g1 g2 => by omega)]
          rfl
        | succ d ih =>
          intro e i hd fa rest
          rcases Nat.lt_or_eq_of_le fa.hi with h' | h'
          · have hlo := fa.lo
            have hp := fa.kid h'
            have hel := endN_le (ts := ts) (k := e) (by omega)
            have hi : i < (kidsN ts k).length := by
              rcases Nat.lt_or_ge i (kidsN ts k).length with q | q
              · exact q
              · exfalso
                have hr := fa.rest
                rw [List.drop_of_length_le q, fam_one h hk hlo h' hp] at hr
                cases hr
            have st := (fa.step h hk hi).2.2.2
            rw [fam_one h hk hlo h' hp, List.flatMap_cons, List.append_assoc]
            have := grow_sub h f e (by omega) (by omega) ((kidsFrom ts k (endN ts e) (endN ts k)).flatMap (tokN ts f) ++ rest)
            rw [hp, show decide (e = 0) = false from decide_eq_false (by omega)] at this
            rw [this]
            exact ih (endN ts e) (i + 1) (by omega) st rest
          · rw [h', kidsFrom_none (fun i g1 g2 => by omega)]
            rfl
      rw [kidsTo_from hle.1, key (endN ts k - (k + 1)) (k + 1) 0 (Nat.le_refl _) (fam_start h hk), List.singleton_append]
      have hkt : k < (ts.take (endN ts k)).length := by rw [List.length_take]; omega
      have hna : nodeAt (ts.take (endN ts k)) k = ts[k] := by rw [nodeAt_at hkt, List.getElem_take]
      have hpa : parI (ts.take (endN ts k)) k = parI ts k := by rw [parI_at hkt, parI_at hk, List.getElem_take]
      rw [gRun_step (gStep_two n3 rfl rfl (by show ¬ (k : Int) < 0; omega) (by show (nodeAt (ts.take (endN ts k)) (k : Int).toNat).name = ts[k].name; rw [Int.toNat_natCast, hna]))]
      simp only [Int.toNat_natCast]
      rw [hpa, show decide ((k : Int) = 0) = decide (k = 0) from by rw [decide_eq_decide]; omega]

theorem tree_end {ts : List Tk} (h : TreeP ts) : endN ts 0 = ts.length := by
  have h1 := h.1
  refine endN_is (by omega) (Nat.le_refl _) (fun j g1 g2 => ?_) (.inl rfl)
  rcases h.up j g2 with h0 | ⟨p, _, e, _⟩
  · omega
  · rw [← e]
    omega

/-- Grown of TokensOf is the tree. -/
theorem grown_toks {ts : List Tk} (h : TreeP ts) : grownT (tokN ts ts.length 0) = some ts := by
  have h1 := h.1
  have e := grow_sub h ts.length 0 (by omega) (by omega) []
  rw [List.append_nil, h.2.2.1, tree_end h, List.take_zero, List.take_length] at e
  have e2 : gRun [] ⟨ts, -1, decide (0 = 0)⟩ = some ⟨ts, -1, true⟩ := rfl
  rw [e2] at e
  rw [grownT_end e]
  exact if_pos ⟨rfl, treeB_t h⟩

end Go.Proofs.Ytkcmagfbacmllab
