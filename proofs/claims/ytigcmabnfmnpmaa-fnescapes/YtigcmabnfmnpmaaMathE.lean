/- Plain mathematics: what is escaped, unescaped, is the text; and it has no sign that would end it. -/
import Derived.Test.YtigcmabnfmnpmaaMath
import Derived.Test.YtigcmabnfmnpmaaMathU
import Derived.WalkKit
namespace Go.Proofs.Ytigcmabnfmnpmaa
open Go.RowKit
set_option linter.unusedVariables false
set_option linter.unusedSimpArgs false

theorem escL_cons (q : Bool) (c : UInt8) (l : List UInt8) : escL q (c :: l) = escB q c ++ escL q l := by simp [escL]

/-- The shapes in which a byte is written. -/
theorem escB_shape (q : Bool) (c : UInt8) :
    (c = 38 ∧ escB q c = amp) ∨ (c = 60 ∧ escB q c = lt) ∨ (c = 62 ∧ q = false ∧ escB q c = gt) ∨ (c = 34 ∧ q = true ∧ escB q c = quot) ∨
    (escB q c = [c] ∧ ¬ c.toNat = 38 ∧ ¬ c.toNat = 60 ∧ (q = false → ¬ c.toNat = 62) ∧ (q = true → ¬ c.toNat = 34)) := by
  by_cases h38 : c.toNat = 38
  · exact .inl ⟨UInt8.toNat_inj.1 h38, by simp [escB, h38, amp]⟩
  · by_cases h60 : c.toNat = 60
    · exact .inr (.inl ⟨UInt8.toNat_inj.1 h60, by simp [escB, h60, lt]⟩)
    · by_cases h62 : c.toNat = 62
      · cases q
        · exact .inr (.inr (.inl ⟨UInt8.toNat_inj.1 h62, rfl, by simp [escB, h62, gt]⟩))
        · exact .inr (.inr (.inr (.inr ⟨by simp [escB, h62], h38, h60, by simp, by simp; omega⟩)))
      · by_cases h34 : c.toNat = 34
        · cases q
          · exact .inr (.inr (.inr (.inr ⟨by simp [escB, h34], h38, h60, by simp; omega, by simp⟩)))
          · exact .inr (.inr (.inr (.inl ⟨UInt8.toNat_inj.1 h34, rfl, by simp [escB, h34, quot]⟩)))
        · exact .inr (.inr (.inr (.inr ⟨by simp [escB, h38, h60, h62, h34], h38, h60, fun _ => h62, fun _ => h34⟩)))

theorem runU_mark (m : List UInt8) (x : UInt8) (k f : Nat) (r acc : List UInt8) (hm : m.length = k) (hk : 1 ≤ k) (hr : readL (m ++ r) = some (x, k)) (hf : (m ++ r).length ≤ f) : ∃ f', r.length ≤ f' ∧ runU f (m ++ r) acc = runU f' r (acc ++ [x]) := by
  rw [List.length_append] at hf
  cases f with
  | zero => omega
  | succ f =>
    refine ⟨f, by omega, ?_⟩
    have hne : m ++ r ≠ [] := by
      intro e
      have := congrArg List.length e
      rw [List.length_append, hm] at this
      simp only [List.length_nil] at this
      omega
    rw [runU_step f _ acc x k (by rw [List.length_append]; omega) hne hr, List.drop_append_of_le_length (by omega), List.drop_of_length_le (by omega), List.nil_append]

theorem pre_self (m r : List UInt8) : m.isPrefixOf (m ++ r) = true := List.isPrefixOf_iff_prefix.2 (List.prefix_append m r)

theorem pre_apart {m n : List UInt8} (r : List UInt8) (h1 : m.isPrefixOf n = false) (h2 : n.isPrefixOf m = false) : n.isPrefixOf (m ++ r) = false := by
  cases h : n.isPrefixOf (m ++ r) with
  | false => rfl
  | true =>
    rcases List.prefix_or_prefix_of_prefix (List.isPrefixOf_iff_prefix.1 h) (List.prefix_append m r) with h3 | h3
    · rw [List.isPrefixOf_iff_prefix.2 h3] at h2; exact absurd h2 (by decide)
    · rw [List.isPrefixOf_iff_prefix.2 h3] at h1; exact absurd h1 (by decide)

theorem run_esc (q : Bool) (l : List UInt8) : ∀ f acc, (escL q l).length ≤ f → runU f (escL q l) acc = some (acc ++ l) := by
  induction l with
  | nil => intro f acc _; simp [escL, runU_end]
  | cons c l ih =>
    intro f acc hf
    rw [escL_cons] at hf ⊢
    have hr : readL (escB q c ++ escL q l) = some (c, (escB q c).length) ∧ 1 ≤ (escB q c).length := by
      rcases escB_shape q c with ⟨rfl, e⟩ | ⟨rfl, e⟩ | ⟨rfl, _, e⟩ | ⟨rfl, _, e⟩ | ⟨e, h, _⟩
      · rw [e]; exact ⟨readL_amp _ (pre_self _ _), by decide⟩
      · rw [e]; exact ⟨readL_lt _ (pre_apart _ (by decide) (by decide)) (pre_self _ _), by decide⟩
      · rw [e]; exact ⟨readL_gt _ (pre_apart _ (by decide) (by decide)) (pre_apart _ (by decide) (by decide)) (pre_self _ _), by decide⟩
      · rw [e]; exact ⟨readL_quot _ (pre_apart _ (by decide) (by decide)) (pre_apart _ (by decide) (by decide)) (pre_apart _ (by decide) (by decide)) (pre_self _ _), by decide⟩
      · rw [e]; exact ⟨readL_plain _ _ h, by simp⟩
    obtain ⟨f', hf', e⟩ := runU_mark (escB q c) c _ f (escL q l) acc rfl hr.2 hr.1 hf
    rw [e, ih f' _ hf', List.append_assoc]
    rfl

theorem plainL_app (a b : List UInt8) : plainL (a ++ b) = (plainL a && plainL b) := by simp [plainL]

theorem plain_esc (q : Bool) (l : List UInt8) (h : plainL l = true) : plainL (escL q l) = true := by
  induction l with
  | nil => rfl
  | cons c l ih =>
    have hc : plainB c.toNat = true ∧ plainL l = true := by simpa [plainL] using h
    rw [escL_cons, plainL_app, ih hc.2, Bool.and_true]
    rcases escB_shape q c with ⟨_, e⟩ | ⟨_, e⟩ | ⟨_, _, e⟩ | ⟨_, _, e⟩ | ⟨e, _⟩
    · rw [e]; decide
    · rw [e]; decide
    · rw [e]; decide
    · rw [e]; decide
    · rw [e]; simpa [plainL] using hc.1

theorem unesc_esc (q : Bool) (l : List UInt8) (h : plainL l = true) : unescL (escL q l) = some l := by
  rw [unescL, if_pos (plain_esc q l h), run_esc q l _ [] (Nat.le_refl _)]
  rfl

theorem esc_longer (q : Bool) (l : List UInt8) : l.length ≤ (escL q l).length := by
  induction l with
  | nil => simp
  | cons c l ih =>
    rw [escL_cons, List.length_append, List.length_cons]
    have : 1 ≤ (escB q c).length := by
      rcases escB_shape q c with ⟨_, e⟩ | ⟨_, e⟩ | ⟨_, _, e⟩ | ⟨_, _, e⟩ | ⟨e, _⟩ <;> rw [e] <;> simp [amp, lt, gt, quot]
    omega

/-- No sign that would end it. -/
def endless (q : Bool) (x : UInt8) : Prop := ¬ x.toNat = 60 ∧ (q = true → ¬ x.toNat = 34) ∧ (q = false → ¬ x.toNat = 62)

theorem esc_endless (q : Bool) (l : List UInt8) : ∀ x ∈ escL q l, endless q x := by
  induction l with
  | nil => intro x hx; simp [escL] at hx
  | cons c l ih =>
    intro x hx
    rw [escL_cons, List.mem_append] at hx
    rcases hx with hx | hx
    · rcases escB_shape q c with ⟨_, e⟩ | ⟨_, e⟩ | ⟨_, _, e⟩ | ⟨_, _, e⟩ | ⟨e, h1, h2, h3, h4⟩
      · rw [e] at hx; simp [amp] at hx; rcases hx with rfl | rfl | rfl | rfl | rfl <;> exact ⟨by decide, fun _ => by decide, fun _ => by decide⟩
      · rw [e] at hx; simp [lt] at hx; rcases hx with rfl | rfl | rfl | rfl <;> exact ⟨by decide, fun _ => by decide, fun _ => by decide⟩
      · rw [e] at hx; simp [gt] at hx; rcases hx with rfl | rfl | rfl | rfl <;> exact ⟨by decide, fun _ => by decide, fun _ => by decide⟩
      · rw [e] at hx; simp [quot] at hx; rcases hx with rfl | rfl | rfl | rfl | rfl | rfl <;> exact ⟨by decide, fun _ => by decide, fun _ => by decide⟩
      · rw [e] at hx; simp at hx; subst hx; exact ⟨h2, h4, h3⟩
    · exact ih x hx

end Go.Proofs.Ytigcmabnfmnpmaa
