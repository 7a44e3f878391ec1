/- What lies on the pile while a tree is looked at (plain mathematics). -/
import Derived.Test.YtlghhemmmjahnaaWPileB
namespace Go.Proofs.Ytlghhemmmjahnaa
set_option linter.unusedVariables false

def elB (ts : List Tk) (j : Nat) : Bool := match ts[j]? with | some t => !decide (t.name.size = 0) | none => false

theorem elB_iff {ts : List Tk} {j : Nat} : elB ts j = true ↔ elN ts j := by
  unfold elB elN
  by_cases h : j < ts.length
  · rw [List.getElem?_eq_getElem h]
    simp [h]
  · rw [List.getElem?_eq_none (by omega)]
    simp [h]

theorem elB_at {ts : List Tk} {j : Nat} (h : j < ts.length) : elB ts j = !decide (ts[j].name.size = 0) := by
  unfold elB
  rw [List.getElem?_eq_getElem h]

/-- What lies on the pile ahead of the i-th node, the top first. -/
def pileF (ts : List Tk) : Nat → List Nat
  | 0 => []
  | i + 1 => (if elB ts i = true then [i] else []) ++ (pileF ts i).dropWhile (notP (parI ts i))

theorem dw_filter {α : Type} {el p : α → Bool} (h : ∀ x, p x = false → el x = true) : ∀ l : List α, (l.filter el).dropWhile p = (l.dropWhile p).filter el
  | [] => rfl
  | x :: l => by
    cases e : el x
    · have hp : p x = true := by
        cases q : p x
        · rw [h x q] at e; cases e
        · rfl
      rw [List.filter_cons_of_neg (by rw [e]; decide), List.dropWhile_cons_of_pos hp]
      exact dw_filter h l
    · rw [List.filter_cons_of_pos e]
      cases q : p x
      · rw [List.dropWhile_cons_of_neg (by rw [q]; decide), List.dropWhile_cons_of_neg (by rw [q]; decide), List.filter_cons_of_pos e]
      · rw [List.dropWhile_cons_of_pos q, List.dropWhile_cons_of_pos q]
        exact dw_filter h l

theorem chain_tail (ts : List Tk) (i : Nat) : (chainF ts (i + 1)).tail = (chainF ts i).dropWhile (notP (parI ts i)) := rfl

theorem chain_tail_el {ts : List Tk} : ∀ i, (∀ j, j < i + 1 → UpOk ts j) → ∀ x ∈ (chainF ts (i + 1)).tail, elB ts x = true
  | 0, _ => fun x hx => by
    rw [chain_tail] at hx
    exact absurd hx (by simp [chainF])
  | i + 1, h => fun x hx => by
    have ih := chain_tail_el i (fun j hj => h j (by omega))
    rw [chain_tail] at hx
    have e : chainF ts (i + 1) = i :: (chainF ts (i + 1)).tail := rfl
    rw [e] at hx
    cases q : notP (parI ts (i + 1)) i
    · rw [List.dropWhile_cons_of_neg (by rw [q]; decide)] at hx
      rcases List.mem_cons.1 hx with rfl | hx
      · rcases h (x + 1) (by omega) with h0 | ⟨p, _, hp, he⟩
        · omega
        · unfold notP at q
          simp only [Bool.not_eq_false', decide_eq_true_eq] at q
          have : x = p := by omega
          subst this
          exact elB_iff.2 he
      · exact ih x hx
    · rw [List.dropWhile_cons_of_pos q] at hx
      exact ih x ((List.dropWhile_sublist _).mem hx)

theorem pile_is {ts : List Tk} : ∀ i, (∀ j, j < i → UpOk ts j) → pileF ts i = (chainF ts i).filter (elB ts)
  | 0, _ => rfl
  | i + 1, h => by
    have ih := pile_is i (fun j hj => h j (by omega))
    have e : chainF ts (i + 1) = i :: (chainF ts i).dropWhile (notP (parI ts i)) := rfl
    have key : ((chainF ts i).filter (elB ts)).dropWhile (notP (parI ts i)) = ((chainF ts i).dropWhile (notP (parI ts i))).filter (elB ts) := by
      rcases h i (by omega) with h0 | ⟨p, _, hp, he⟩
      · subst h0
        rfl
      · refine dw_filter (fun x hx => ?_) _
        unfold notP at hx
        simp only [Bool.not_eq_false', decide_eq_true_eq] at hx
        have : x = p := by omega
        subst this
        exact elB_iff.2 he
    rw [pileF, ih, key, e]
    cases q : elB ts i
    · rw [List.filter_cons_of_neg (by rw [q]; decide)]
      simp
    · rw [List.filter_cons_of_pos q]
      simp

/-- Where the node may stand there: what is left is what is around it. -/
theorem pile_ok {ts : List Tk} {i : Nat} (h : ∀ j, j < i → UpOk ts j) (hu : UpOk ts i) : (chainF ts (i + 1)).length = ((pileF ts i).dropWhile (notP (parI ts i))).length + 1 := by
  have h1 := pile_is (i + 1) (fun j hj => by rcases Nat.lt_or_eq_of_le (Nat.le_of_lt_succ hj) with h' | rfl; exact h j h'; exact hu)
  have h2 := chain_tail_el i (fun j hj => by rcases Nat.lt_or_eq_of_le (Nat.le_of_lt_succ hj) with h' | rfl; exact h j h'; exact hu)
  have e : chainF ts (i + 1) = i :: (chainF ts (i + 1)).tail := rfl
  rw [pileF, e] at h1
  rw [e, List.length_cons]
  congr 1
  have h3 : (chainF ts (i + 1)).tail.filter (elB ts) = (chainF ts (i + 1)).tail := List.filter_eq_self.2 h2
  cases q : elB ts i
  · rw [q, List.filter_cons_of_neg (by rw [q]; decide), h3] at h1
    have h1 : (pileF ts i).dropWhile (notP (parI ts i)) = (chainF ts (i + 1)).tail := h1
    rw [h1]
  · rw [q, List.filter_cons_of_pos q, h3] at h1
    have h1 : i :: (pileF ts i).dropWhile (notP (parI ts i)) = i :: (chainF ts (i + 1)).tail := h1
    injection h1 with _ h1
    rw [h1]

theorem dw_nil {α : Type} {p : α → Bool} : ∀ {l : List α}, l.dropWhile p = [] → ∀ x ∈ l, p x = true
  | [], _, x, hx => absurd hx List.not_mem_nil
  | y :: l, h, x, hx => by
    cases q : p y
    · rw [List.dropWhile_cons_of_neg (by rw [q]; decide)] at h
      cases h
    · rw [List.dropWhile_cons_of_pos q] at h
      rcases List.mem_cons.1 hx with rfl | hx
      · exact q
      · exact dw_nil h x hx

/-- It may stand there just if something is left. -/
theorem pile_up {ts : List Tk} {i : Nat} (h : ∀ j, j < i → UpOk ts j) (hi : 0 < i) : UpOk ts i ↔ 0 < ((pileF ts i).dropWhile (notP (parI ts i))).length := by
  rw [pile_is i h]
  constructor
  · rintro (h0 | ⟨p, hp, e, he⟩)
    · omega
    · rw [List.length_pos_iff]
      intro e0
      have := dw_nil e0 p (List.mem_filter.2 ⟨hp, elB_iff.2 he⟩)
      unfold notP at this
      simp only [Bool.not_eq_true', decide_eq_false_iff_not] at this
      exact this e
  · intro hl
    rw [List.length_pos_iff] at hl
    have h1 := List.head_dropWhile_not (notP (parI ts i)) hl
    have h2 := (List.dropWhile_sublist (notP (parI ts i))).mem (List.head_mem hl)
    obtain ⟨h3, h4⟩ := List.mem_filter.1 h2
    refine .inr ⟨_, h3, ?_, elB_iff.1 h4⟩
    generalize (List.dropWhile (notP (parI ts i)) (List.filter (elB ts) (chainF ts i))).head hl = z at h1 ⊢
    unfold notP at h1
    simpa using h1

theorem dw_len {α : Type} (p : α → Bool) (l : List α) : (l.dropWhile p).length ≤ l.length := (List.dropWhile_sublist p).length_le

theorem pile_len (ts : List Tk) : ∀ i, (pileF ts i).length ≤ i
  | 0 => Nat.le_refl _
  | i + 1 => by
    have := pile_len ts i
    have h2 := dw_len (notP (parI ts i)) (pileF ts i)
    rw [pileF, List.length_append]
    split <;> simp <;> omega

/-- The token that a node begins with. -/
def tokOfN (t : Tk) : Tk := if t.name.size = 0 then ⟨3, ⟨#[]⟩, t.attrs, t.text⟩ else ⟨1, t.name, t.attrs, t.text⟩

theorem tokOfN_B (t : Tk) : tokB (tokOfN t) = nodeB t := by
  unfold tokOfN nodeB
  split
  · unfold tokB
    rw [if_neg (show ¬ (3 : Int) = 1 by decide), if_neg (show ¬ (3 : Int) = 2 by decide), if_pos rfl, show decide ((⟨#[]⟩ : ByteArray).size = 0) = true from rfl, Bool.true_and]
  · unfold tokB
    rw [if_pos rfl]

theorem tokOfN_attrs (t : Tk) : (tokOfN t).attrs = t.attrs := by unfold tokOfN; split <;> rfl

theorem tokOfN_sz {n : Nat} {t : Tk} (h : TkSz n t) : TkSz n (tokOfN t) := by
  obtain ⟨h1, h2, h3, h4⟩ := h
  unfold tokOfN
  split
  · exact ⟨Nat.zero_le _, h2, h3, h4⟩
  · exact ⟨h1, h2, h3, h4⟩

noncomputable def twinB (ts : List Tk) (i : Nat) : Bool := open Classical in decide (TwinAt ts i)

theorem twinB_t {ts : List Tk} {i : Nat} (h : TwinAt ts i) : twinB ts i = true := by unfold twinB; simp [h]

theorem twinB_f {ts : List Tk} {i : Nat} (h : ¬ TwinAt ts i) : twinB ts i = false := by unfold twinB; simp [h]

end Go.Proofs.Ytlghhemmmjahnaa
