/- Heaps: what one step up and one step down keep. -/
import Derived.Test.YtnddphmcagcdiaaUMath
namespace Go.Proofs.Ytnddphmcagcdiaa
set_option linter.unusedVariables false

/-- Two places changed round. -/
def swF (f : Nat → Int) (i j : Nat) : Nat → Int := fun k => if k = i then f j else if k = j then f i else f k

theorem swF_l (f : Nat → Int) (i j : Nat) : swF f i j i = f j := if_pos rfl
theorem swF_r (f : Nat → Int) (i j : Nat) : swF f i j j = f i := by
  unfold swF
  by_cases h : j = i
  · rw [if_pos h, h]
  · rw [if_neg h, if_pos rfl]
theorem swF_o {f : Nat → Int} {i j k : Nat} (h1 : ¬ k = i) (h2 : ¬ k = j) : swF f i j k = f k := by
  unfold swF
  rw [if_neg h1, if_neg h2]

def HeapF (f : Nat → Int) (n : Nat) : Prop := ∀ k, k < n → 0 < k → f ((k - 1) / 2) ≤ f k

/-- A heap but for what stands at j, which may be too small. -/
def UpOk (f : Nat → Int) (n j : Nat) : Prop := (∀ k, k < n → 0 < k → ¬ k = j → f ((k - 1) / 2) ≤ f k) ∧ (∀ k, k < n → 0 < j → 0 < k → (k - 1) / 2 = j → f ((j - 1) / 2) ≤ f k)

/-- A heap but for what stands at i, which may be too great. -/
def DownOk (f : Nat → Int) (n i : Nat) : Prop := (∀ k, k < n → 0 < k → ¬ (k - 1) / 2 = i → f ((k - 1) / 2) ≤ f k) ∧ (∀ k, k < n → 0 < k → (k - 1) / 2 = i → 0 < i → f ((i - 1) / 2) ≤ f k)

theorem heap_root {f : Nat → Int} {n : Nat} (h : HeapF f n) : ∀ k, k < n → f 0 ≤ f k := by
  intro k
  induction k using Nat.strongRecOn with
  | ind k ih =>
    intro hk
    rcases Nat.eq_zero_or_pos k with rfl | h0
    · exact Int.le_refl _
    · exact Int.le_trans (ih ((k - 1) / 2) (by omega) (by omega)) (h k hk h0)

/-- One more behind a heap. -/
theorem up_start {f : Nat → Int} {n : Nat} (h : HeapF f n) : UpOk f (n + 1) n :=
  ⟨fun k hk h0 hne => h k (by omega) h0, fun k hk _ h0 hp => by omega⟩

theorem up_step {f : Nat → Int} {n j : Nat} (h : UpOk f n j) (h0 : 0 < j) (hj : j < n) (hlt : f j < f ((j - 1) / 2)) : UpOk (swF f j ((j - 1) / 2)) n ((j - 1) / 2) := by
  obtain ⟨p, hp⟩ : ∃ p, (j - 1) / 2 = p := ⟨_, rfl⟩
  have hpj : p < j := by omega
  have h1 := h.1
  have h2 := fun k a b c => h.2 k a h0 b c
  rw [hp] at hlt h2 ⊢
  refine ⟨fun k hk hk0 hkp => ?_, fun k hk hp0 hk0 hkp => ?_⟩
  · by_cases hkj : k = j
    · subst hkj
      rw [hp, swF_r, swF_l]
      omega
    · rw [swF_o hkj hkp]
      by_cases q1 : (k - 1) / 2 = j
      · rw [q1, swF_l]
        exact h2 k hk hk0 q1
      · by_cases q2 : (k - 1) / 2 = p
        · have := h1 k hk hk0 hkj
          rw [q2] at this ⊢
          rw [swF_r]
          omega
        · rw [swF_o q1 q2]
          exact h1 k hk hk0 hkj
  · have e1 : swF f j p ((p - 1) / 2) = f ((p - 1) / 2) := swF_o (by omega) (by omega)
    have e2 := h1 p (by omega) hp0 (by omega)
    rw [e1]
    by_cases hkj : k = j
    · subst hkj
      rw [swF_l]
      exact e2
    · rw [swF_o hkj (by omega)]
      have := h1 k hk hk0 hkj
      rw [hkp] at this
      omega

theorem up_end {f : Nat → Int} {n j : Nat} (h : UpOk f n j) (he : j = 0 ∨ f ((j - 1) / 2) ≤ f j) : HeapF f n := fun k hk h0 => by
  by_cases hkj : k = j
  · subst hkj
    rcases he with rfl | he
    · omega
    · exact he
  · exact h.1 k hk h0 hkj

theorem down_start {f : Nat → Int} {n : Nat} (h : ∀ k, k < n → 0 < k → ¬ (k - 1) / 2 = 0 → f ((k - 1) / 2) ≤ f k) : DownOk f n 0 :=
  ⟨fun k hk h0 hne => h k hk h0 hne, fun k _ _ _ h0 => absurd h0 (Nat.lt_irrefl 0)⟩

theorem down_step {f : Nat → Int} {n i j : Nat} (h : DownOk f n i) (hj : j < n) (hji : (j - 1) / 2 = i) (h0 : 0 < j) (hlt : f j < f i) (hm : ∀ k, k < n → 0 < k → (k - 1) / 2 = i → f j ≤ f k) : DownOk (swF f i j) n j := by
  refine ⟨fun k hk hk0 hkq => ?_, fun k hk hk0 hkq _ => ?_⟩
  · by_cases hki : k = i
    · subst hki
      rw [swF_l, swF_o (by omega) hkq]
      exact h.2 j hj h0 hji hk0
    · by_cases hkj : k = j
      · subst hkj
        rw [hji, swF_l, swF_r]
        omega
      · rw [swF_o hki hkj]
        by_cases q1 : (k - 1) / 2 = i
        · rw [q1, swF_l]
          exact hm k hk hk0 q1
        · rw [swF_o q1 hkq]
          exact h.1 k hk hk0 q1
  · have e : swF f i j k = f k := swF_o (by omega) (by omega)
    rw [hji, swF_l, e]
    have := h.1 k hk hk0 (by omega)
    rw [hkq] at this
    exact this

theorem down_end {f : Nat → Int} {n i : Nat} (h : DownOk f n i) (he : ∀ k, k < n → 0 < k → (k - 1) / 2 = i → f i ≤ f k) : HeapF f n := fun k hk h0 => by
  by_cases hk1 : (k - 1) / 2 = i
  · rw [hk1]
    exact he k hk h0 hk1
  · exact h.1 k hk h0 hk1

end Go.Proofs.Ytnddphmcagcdiaa
