/- What TokensOf tells by its pile are the tokens of the tree (plain mathematics). -/
import Derived.Test.YtkcmagfbacmllabWPileM
import Derived.Test.YtkcmagfbacmllabWBackT
import Derived.Test.YtkcmagfbacmllabWFam
namespace Go.Proofs.Ytkcmagfbacmllab
set_option linter.unusedVariables false

def clN (ts : List Tk) (j : Nat) : Tk := clT (nodeAt ts j)

/-- What is told ahead of the i-th node. -/
def toldF (ts : List Tk) : Nat → List Tk
  | 0 => []
  | i + 1 => (toldF ts i ++ ((pileF ts i).takeWhile (notP (parI ts i))).map (clN ts)) ++ [tokOfN (nodeAt ts i)]

def topOf : List Nat → Int
  | [] => -1
  | x :: _ => (x : Int)

theorem gRun_append : ∀ (l m : List Tk) (s s1 : GSt), gRun l s = some s1 → gRun (l ++ m) s = gRun m s1
  | [], m, s, s1, h => by cases h; rfl
  | k :: l, m, s, s1, h => by
    obtain ⟨s2, h1, h2⟩ := gRun_cases h
    rw [List.cons_append, gRun_step h1]
    exact gRun_append l m s2 s1 h2

theorem par_take {ts : List Tk} {i x : Nat} (h : x < i) : parI (ts.take i) x = parI ts x := by
  unfold parI
  rw [List.getElem?_take, if_pos h]

theorem node_take {ts : List Tk} {i x : Nat} (h : x < i) : nodeAt (ts.take i) x = nodeAt ts x := by
  unfold nodeAt
  rw [List.getElem?_take, if_pos h]

theorem pile_linked {ts : List Tk} (h : TreeP ts) (i : Nat) (hi : i < ts.length) : Linked ts (pileF ts (i + 1)) ∧ ∀ x ∈ pileF ts (i + 1), x < i + 1 ∧ elN ts x := by
  have hu : ∀ j, j < i + 1 → UpOk ts j := fun j hj => h.up j (by omega)
  obtain ⟨h1, h2⟩ := h.linked i hi
  have h3 := chain_tail_el i hu
  have h4 := pile_is (i + 1) hu
  have e : chainF ts (i + 1) = i :: (chainF ts (i + 1)).tail := rfl
  have h5 : (chainF ts (i + 1)).tail.filter (elB ts) = (chainF ts (i + 1)).tail := List.filter_eq_self.2 h3
  refine ⟨?_, fun x hx => ?_⟩
  · rw [h4, e]
    cases q : elB ts i
    · rw [List.filter_cons_of_neg (by rw [q]; decide), h5]
      rw [e] at h1
      cases ht : (chainF ts (i + 1)).tail with
      | nil =>
        rw [ht] at h1
        have : i = 0 := h1
        subst this
        rw [elB_iff.2 h.2.2.2.1] at q
        cases q
      | cons y r =>
        rw [ht] at h1
        exact h1.tail
    · rw [List.filter_cons_of_pos q, h5, ← e]
      exact h1
  · rw [h4] at hx
    obtain ⟨hx1, hx2⟩ := List.mem_filter.1 hx
    exact ⟨h2 x hx1, elB_iff.1 hx2⟩

/-- One is closed. -/
theorem close_one {ts : List Tk} (h : TreeP ts) {i x : Nat} (hi : i ≤ ts.length) (hx : x < i) (he : elN ts x) : gStep ⟨ts.take i, (x : Int), false⟩ (clN ts x) = some ⟨ts.take i, parI ts x, decide ((x : Int) = 0)⟩ := by
  have hxl : x < ts.length := by omega
  obtain ⟨_, hne⟩ := he
  obtain ⟨_, _, h3⟩ := node_el h hxl hne
  have e1 := gStep_two (s := ⟨ts.take i, (x : Int), false⟩) (k := clN ts x) (by unfold clN; rw [nodeAt_at hxl]; exact h3) rfl rfl (by show ¬ (x : Int) < 0; omega) (by
    show (nodeAt (ts.take i) ((x : Int)).toNat).name = _
    rw [Int.toNat_natCast, node_take hx]
    rfl)
  rw [e1]
  show some (GSt.mk (ts.take i) (parI (ts.take i) ((x : Int)).toNat) (decide ((x : Int) = 0))) = _
  rw [Int.toNat_natCast, par_take hx]

theorem close_run {ts : List Tk} (h : TreeP ts) {i : Nat} (hi : i ≤ ts.length) : ∀ (T D : List Nat), ¬ D = [] → Linked ts (T ++ D) → (∀ x ∈ T, x < i ∧ elN ts x) → gRun (T.map (clN ts)) ⟨ts.take i, topOf (T ++ D), false⟩ = some ⟨ts.take i, topOf D, false⟩
  | [], D, _, _, _ => rfl
  | x :: T, D, hD, hl, hx => by
    obtain ⟨y, r, hyr⟩ : ∃ y r, T ++ D = y :: r := by
      cases e : T ++ D with
      | nil => exact absurd (List.append_eq_nil_iff.1 e).2 hD
      | cons y r => exact ⟨y, r, rfl⟩
    have hl2 : Linked ts (x :: y :: r) := by rw [← hyr]; exact hl
    have ih := close_run h hi T D hD (by rw [hyr]; exact hl2.tail) (fun z hz => hx z (List.mem_cons_of_mem _ hz))
    obtain ⟨h1, h2⟩ := hx x List.mem_cons_self
    show gRun (clN ts x :: T.map (clN ts)) ⟨ts.take i, (x : Int), false⟩ = _
    have hx0 : decide ((x : Int) = 0) = false := decide_eq_false (by have := hl2.2.1; omega)
    rw [gRun_step (close_one h hi h1 h2), hl2.1, hx0, ← ih, hyr]
    rfl

theorem close_all {ts : List Tk} (h : TreeP ts) : ∀ (T : List Nat), Linked ts T → (∀ x ∈ T, x < ts.length ∧ elN ts x) → gRun (T.map (clN ts)) ⟨ts.take ts.length, topOf T, false⟩ = some ⟨ts, -1, true⟩
  | [], hl, _ => absurd hl (fun h => h)
  | [x], hl, hx => by
    have hx0 : x = 0 := hl
    subst hx0
    obtain ⟨h1, h2⟩ := hx 0 List.mem_cons_self
    show gRun [clN ts 0] ⟨ts.take ts.length, ((0 : Nat) : Int), false⟩ = _
    rw [gRun_step (close_one h (Nat.le_refl _) h1 h2), h.2.2.1, List.take_length]
    rfl
  | x :: y :: r, hl, hx => by
    have ih := close_all h (y :: r) hl.tail (fun z hz => hx z (List.mem_cons_of_mem _ hz))
    obtain ⟨h1, h2⟩ := hx x List.mem_cons_self
    show gRun (clN ts x :: (y :: r).map (clN ts)) ⟨ts.take ts.length, (x : Int), false⟩ = _
    have hx0 : decide ((x : Int) = 0) = false := decide_eq_false (by have := hl.2.1; omega)
    rw [gRun_step (close_one h (Nat.le_refl _) h1 h2), hl.1, hx0, ← ih]
    rfl

theorem tw_dw {α : Type} (p : α → Bool) (l : List α) : l.takeWhile p ++ l.dropWhile p = l := List.takeWhile_append_dropWhile

theorem top_par {ts : List Tk} (h : TreeP ts) {i : Nat} (hi : i < ts.length) : topOf ((pileF ts i).dropWhile (notP (parI ts i))) = parI ts i := by
  rcases Nat.eq_zero_or_pos i with h0 | h0
  · subst h0
    rw [h.2.2.1]
    rfl
  · have hl := (pile_up (fun j hj => h.up j (by omega)) h0).1 (h.up i hi)
    rw [List.length_pos_iff] at hl
    have h1 := List.head_dropWhile_not (notP (parI ts i)) hl
    cases e : (pileF ts i).dropWhile (notP (parI ts i)) with
    | nil => exact absurd e hl
    | cons y r =>
      have e2 : ((pileF ts i).dropWhile (notP (parI ts i))).head hl = y := by simp only [e, List.head_cons]
      rw [e2] at h1
      show (y : Int) = _
      unfold notP at h1
      simpa using h1

/-- A node begins. -/
theorem tok_begin {ts : List Tk} (h : TreeP ts) {i : Nat} (hi : i < ts.length) : gStep ⟨ts.take i, parI ts i, false⟩ (tokOfN (nodeAt ts i)) = some ⟨ts.take (i + 1), if elB ts i = true then (i : Int) else parI ts i, false⟩ := by
  rw [nodeAt_at hi]
  by_cases he : ts[i].name.size = 0
  · obtain ⟨h1, h2, _, _⟩ := node_tx h hi he
    have e1 : tokOfN ts[i] = txT ts[i] := by
      unfold tokOfN
      rw [if_pos he, h1]
      rfl
    rw [e1, gStep_three h2 rfl rfl, elB_at hi, decide_eq_true he]
    have e2 : (ts.take i ++ [(⟨parI ts i, ⟨#[]⟩, [], (txT ts[i]).text⟩ : Tk)]) = ts.take (i + 1) := take_node hi h1
    show some (GSt.mk (ts.take i ++ [(⟨parI ts i, ⟨#[]⟩, [], (txT ts[i]).text⟩ : Tk)]) (parI ts i) false) = _
    rw [e2]
    rfl
  · obtain ⟨h1, h2, _⟩ := node_el h hi he
    have e1 : tokOfN ts[i] = opT ts[i] := by
      unfold tokOfN
      rw [if_neg he, h1]
      rfl
    rw [e1, gStep_one h2 rfl rfl, elB_at hi, decide_eq_false he]
    have e2 : (ts.take i ++ [(⟨parI ts i, (opT ts[i]).name, (opT ts[i]).attrs, ⟨#[]⟩⟩ : Tk)]) = ts.take (i + 1) := take_node hi h1
    show some (GSt.mk (ts.take i ++ [(⟨parI ts i, (opT ts[i]).name, (opT ts[i]).attrs, ⟨#[]⟩⟩ : Tk)]) ((ts.take i).length : Int) false) = _
    rw [e2, List.length_take]
    congr 2
    show ((min i ts.length : Nat) : Int) = (i : Int)
    omega

theorem told_run {ts : List Tk} (h : TreeP ts) : ∀ i, i ≤ ts.length → gRun (toldF ts i) ⟨[], -1, false⟩ = some ⟨ts.take i, topOf (pileF ts i), false⟩
  | 0, _ => rfl
  | i + 1, hi => by
    have ih := told_run h i (by omega)
    have e1 : gRun (toldF ts i ++ ((pileF ts i).takeWhile (notP (parI ts i))).map (clN ts)) ⟨[], -1, false⟩ = some ⟨ts.take i, topOf ((pileF ts i).dropWhile (notP (parI ts i))), false⟩ := by
      rw [gRun_append _ _ _ _ ih]
      rcases Nat.eq_zero_or_pos i with h0 | h0
      · subst h0
        rfl
      · obtain ⟨j, rfl⟩ : ∃ j, i = j + 1 := ⟨i - 1, by omega⟩
        obtain ⟨hl, hx⟩ := pile_linked h j (by omega)
        have hne := (pile_up (fun m hm => h.up m (by omega)) h0).1 (h.up (j + 1) (by omega))
        rw [List.length_pos_iff] at hne
        have := close_run h (i := j + 1) (by omega) _ _ hne (by rw [tw_dw]; exact hl) (fun x hx' => hx x ((List.takeWhile_sublist _).mem hx'))
        rw [tw_dw] at this
        exact this
    rw [toldF, gRun_append _ _ _ _ e1, top_par h (by omega), gRun_step (tok_begin h (by omega))]
    show some _ = _
    congr 2
    rw [pileF]
    cases q : elB ts i
    · exact (top_par h (by omega)).symm
    · rfl

/-- All that is told. -/
theorem told_all {ts : List Tk} (h : TreeP ts) : toldF ts ts.length ++ (pileF ts ts.length).map (clN ts) = tokN ts ts.length 0 := by
  have h1 := h.1
  have e := grow_sub h ts.length 0 (by omega) (by omega) []
  rw [List.append_nil, h.2.2.1, tree_end h, List.take_zero, List.take_length] at e
  have e2 : gRun [] ⟨ts, -1, decide (0 = 0)⟩ = some ⟨ts, -1, true⟩ := rfl
  rw [e2] at e
  obtain ⟨j, hj⟩ : ∃ j, ts.length = j + 1 := ⟨ts.length - 1, by omega⟩
  obtain ⟨hl, hx⟩ := pile_linked h j (by omega)
  rw [← hj] at hl hx
  have e3 := gRun_append _ ((pileF ts ts.length).map (clN ts)) _ _ (told_run h ts.length (Nat.le_refl _))
  rw [close_all h _ hl hx] at e3
  exact grow_inj _ _ _ _ _ GInv.start e3 e rfl rfl rfl

end Go.Proofs.Ytkcmagfbacmllab
