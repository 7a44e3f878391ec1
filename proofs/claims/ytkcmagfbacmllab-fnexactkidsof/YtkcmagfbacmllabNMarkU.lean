/- Marks in a row of tokens: set, and held. -/
import Derived.Test.YtkcmagfbacmllabNMarkT
namespace Go.Proofs.Ytkcmagfbacmllab
open Go.RowKit
set_option linter.unusedVariables false
set_option linter.unusedSimpArgs false

theorem Shape.K_ge (s : Shape) (k : Nat) : ∀ j, j ≤ s.K k j := by
  intro j
  induction j with
  | zero => exact Nat.zero_le _
  | succ j ih =>
    show j + 1 ≤ s.K k j + (3 + 2 * s.len j)
    omega

theorem hold_step {s : Shape} {B i : Nat} {w w' : World} {f : Nat → Tk} {t : Tk} {cur : Array Value} (ok : s.Ok B) (h : s.Holds w f) (hi : i < s.n) (hcur : w.heap[s.R]? = some (.cells cur 53 (0, 0)))
    (hk : KeepB (fun b => b = s.R ∨ 0 < s.len i ∧ b = s.A i) w w')
    (hR : w'.heap[s.R]? = some (.cells (((cur.setIfInBounds (s.o + i * 4) (.int .i64 t.kind)).setIfInBounds (s.o + i * 4 + 1) (.string t.name)).setIfInBounds (s.o + i * 4 + 3) (.string t.text)) 53 (0, 0)))
    (hl : t.attrs.length = s.len i) (ha : 0 < s.len i → ∃ cu, w'.heap[s.A i]? = some (.cells cu 88 (0, 0)) ∧ AtCells cu (s.O i) t.attrs) : s.Holds w' (fun j => if j = i then t else f j) := by
  obtain ⟨cur0, hc0, hr⟩ := h.row
  have ec : cur0 = cur := by
    rw [hcur] at hc0
    simp at hc0
    exact hc0.symm
  subst ec
  have b3 : s.o + i * 4 + 3 < cur0.size := (Array.getElem?_eq_some_iff.1 (hr i hi).c3).1
  refine ⟨⟨_, hR, fun j hj => ?_⟩, fun j hj => ?_, fun j hj hlj => ?_⟩
  · by_cases e : j = i
    · subst e
      simp only [if_true]
      have t2 := (hr j hj).c2
      refine ⟨?_, ?_, ?_, ?_⟩
      · simp [Array.getElem?_setIfInBounds]; omega
      · simp [Array.getElem?_setIfInBounds]; omega
      · simp only [Array.getElem?_setIfInBounds]
        rw [if_neg (by omega), if_neg (by omega), if_neg (by omega), t2, h.len j hj, hl]
      · simp [Array.getElem?_setIfInBounds]; omega
    · simp only [if_neg e]
      have t0 := hr j hj
      refine ⟨?_, ?_, ?_, ?_⟩
      · simp only [Array.getElem?_setIfInBounds]; rw [if_neg (by omega), if_neg (by omega), if_neg (by omega)]; exact t0.c0
      · simp only [Array.getElem?_setIfInBounds]; rw [if_neg (by omega), if_neg (by omega), if_neg (by omega)]; exact t0.c1
      · simp only [Array.getElem?_setIfInBounds]; rw [if_neg (by omega), if_neg (by omega), if_neg (by omega)]; exact t0.c2
      · simp only [Array.getElem?_setIfInBounds]; rw [if_neg (by omega), if_neg (by omega), if_neg (by omega)]; exact t0.c3
  · by_cases e : j = i
    · subst e; simpa using hl
    · simp only [if_neg e]; exact h.len j hj
  · by_cases e : j = i
    · subst e
      simp only [if_true]
      exact ha hlj
    · simp only [if_neg e]
      obtain ⟨cu, hcu, hac⟩ := h.ats j hj hlj
      refine ⟨cu, (hk.block _ (lt_of_heap hcu) ?_).trans hcu, hac⟩
      rintro (x | ⟨x, y⟩)
      · exact (ok.at_ j hj hlj).2.2 x
      · exact ok.apart j i hj hi e hlj x y

end Go.Proofs.Ytkcmagfbacmllab
