/- Contract of ShowTree of the specification. -/
import Derived.Test.YtkcmagfbacmllaaWTokS
import Derived.Test.YtkcmagfbacmllaaNShow
namespace Go.Proofs.Ytkcmagfbacmllaa
open Go.RowKit
set_option linter.unusedVariables false
set_option linter.unusedSimpArgs false

/-- Tokens as they are shown, one behind the other. -/
def showAll (l : List Tk) : ByteArray := l.foldl (fun s t => s ++ showS t) ⟨#[]⟩

theorem showAll_snoc (l : List Tk) (t : Tk) : showAll (l ++ [t]) = showAll l ++ showS t := by simp [showAll]

theorem showS_size {t : Tk} (hz : TkSz 1048576 t) (h6 : t.attrs.length ≤ 6) : (showS t).size ≤ 60000000 := by
  obtain ⟨z1, z2, z3, z4⟩ := hz
  unfold showS
  split
  · rw [ByteArray.size_append, ByteArray.size_append, show (⟨#[60, 47]⟩ : ByteArray).size = 2 from rfl, show (⟨#[62]⟩ : ByteArray).size = 1 from rfl]
    omega
  · split
    · have := escS_size false t.text
      omega
    · have h := atsS_size t.attrs ((⟨#[60]⟩ : ByteArray) ++ t.name) z3
      rw [ByteArray.size_append, show (⟨#[60]⟩ : ByteArray).size = 1 from rfl] at h
      rw [ByteArray.size_append, show (⟨#[62]⟩ : ByteArray).size = 1 from rfl]
      omega

theorem showAll_size {l : List Tk} (h : ∀ t ∈ l, (showS t).size ≤ 60000000) : (showAll l).size ≤ 60000000 * l.length := by
  have H : ∀ (l : List Tk) (s : ByteArray), (∀ t ∈ l, (showS t).size ≤ 60000000) → (l.foldl (fun s t => s ++ showS t) s).size ≤ s.size + 60000000 * l.length := by
    intro l
    induction l with
    | nil => intro s _; simp
    | cons t l ih =>
      intro s hs
      have := ih (s ++ showS t) (fun x hx => hs x (List.mem_cons_of_mem _ hx))
      have h2 := hs t (List.mem_cons_self ..)
      rw [ByteArray.size_append] at this
      simp only [List.foldl_cons, List.length_cons]
      omega
  have := H l ⟨#[]⟩ h
  rw [show (⟨#[]⟩ : ByteArray).size = 0 from rfl] at this
  unfold showAll
  omega

theorem tokN_six {ts : List Tk} (h : ∀ k, ¬ (nodeAt ts k).name.size = 0 → (nodeAt ts k).attrs.length ≤ 6) : ∀ f k, ∀ t ∈ tokN ts f k, t.attrs.length ≤ 6
  | 0, k, t, ht => by simp [tokN] at ht
  | f + 1, k, t, ht => by
    unfold tokN at ht
    split at ht
    · rw [List.mem_singleton] at ht
      subst ht
      exact Nat.zero_le _
    · rename_i hne
      rcases List.mem_cons.1 ht with rfl | ht
      · exact h k hne
      · rcases List.mem_append.1 ht with ht | ht
        · obtain ⟨i, _, hi⟩ := List.mem_flatMap.1 ht
          exact tokN_six h f i t hi
        · rw [List.mem_singleton] at ht
          subst ht
          exact Nat.zero_le _

theorem tree_six {ts : List Tk} (h : TreeP ts) (k : Nat) (hne : ¬ (nodeAt ts k).name.size = 0) : (nodeAt ts k).attrs.length ≤ 6 := by
  by_cases hk : k < ts.length
  · rw [nodeAt_at hk] at hne ⊢
    obtain ⟨⟨_, hb⟩, _⟩ := h.2.2.2.2 k hk
    rw [nodeB_el hne] at hb
    simp only [Bool.and_eq_true] at hb
    by_cases q : AttrsOk ts[k].attrs
    · exact q.1
    · rw [attrsB_f q] at hb
      cases hb.2.1
  · unfold nodeAt
    rw [List.getElem?_eq_none (by omega)]
    exact Nat.zero_le _

/-- What ShowTree answers. -/
noncomputable def shownN (ts : List Tk) : ByteArray := if treeB ts = true then showAll (tokN ts ts.length 0) else ⟨#[]⟩

end Go.Proofs.Ytkcmagfbacmllaa
