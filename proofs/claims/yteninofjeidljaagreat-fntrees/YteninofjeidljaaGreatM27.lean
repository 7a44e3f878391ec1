/- The tokens of a tree: each is right, no two texts side by side (plain mathematics of promise 8). Contract of nodeThere of the program. Contracts of EndOf, KidsOf and TextIn of the program. Contract of KidsOf of the program. -/
import Derived.Test.YteninofjeidljaaGreatM21
import Derived.Test.YteninofjeidljaaGreatM20
import Derived.Test.YteninofjeidljaaGreatM6
import Derived.Test.YteninofjeidljaaGreatM11
namespace Go.Proofs.YteninofjeidljaaGreat

set_option linter.unusedVariables false

theorem tokN_right {ts : List Tk} (h : TreeP ts) : ∀ f k, k < ts.length → ∀ t ∈ tokN ts f k, tokB t = true
  | 0, k, hk, t, ht => by simp [tokN] at ht
  | f + 1, k, hk, t, ht => by
    have hle := endN_le hk
    unfold tokN at ht
    rw [nodeAt_at hk] at ht
    split at ht
    · rename_i he
      rw [List.mem_singleton] at ht
      subst ht
      exact (node_tx h hk he).2.1
    · rename_i he
      rcases List.mem_cons.1 ht with rfl | ht
      · exact (node_el h hk he).2.1
      · rcases List.mem_append.1 ht with ht | ht
        · obtain ⟨i, hi, ht⟩ := List.mem_flatMap.1 ht
          have hin : i < endN ts k := List.mem_range.1 (List.mem_filter.1 hi).1
          exact tokN_right h f i (by omega) t ht
        · rw [List.mem_singleton] at ht
          subst ht
          exact (node_el h hk he).2.2

/-- No two texts side by side. -/
def NoTwo : List Tk → Prop
  | [] => True
  | [_] => True
  | a :: b :: r => ¬ (a.kind = 3 ∧ b.kind = 3) ∧ NoTwo (b :: r)

theorem NoTwo.app : ∀ {l m : List Tk}, NoTwo l → NoTwo m → (∀ a b, l.getLast? = some a → m.head? = some b → ¬ (a.kind = 3 ∧ b.kind = 3)) → NoTwo (l ++ m)
  | [], m, _, hm, _ => hm
  | [a], [], _, _, _ => trivial
  | [a], b :: r, _, hm, h => ⟨h a b rfl rfl, hm⟩
  | a :: b :: r, m, hl, hm, h => ⟨hl.1, NoTwo.app (l := b :: r) hl.2 hm (fun x y hx hy => h x y (by rw [List.getLast?_cons_cons]; exact hx) hy)⟩

/-- What the tokens of a node begin and end with. -/
theorem tokN_ends {ts : List Tk} {f k : Nat} (hf : ¬ f = 0) (hk : k < ts.length) : (∀ a, (tokN ts f k).head? = some a → (a.kind = 3 ↔ ts[k].name.size = 0)) ∧ (∀ a, (tokN ts f k).getLast? = some a → (a.kind = 3 ↔ ts[k].name.size = 0)) ∧ ¬ tokN ts f k = [] := by
  obtain ⟨f', rfl⟩ : ∃ f', f = f' + 1 := ⟨f - 1, by omega⟩
  unfold tokN
  rw [nodeAt_at hk]
  split
  · rename_i he
    refine ⟨fun a ha => ?_, fun a ha => ?_, by simp⟩
    · cases ha
      exact ⟨fun _ => he, fun _ => rfl⟩
    · cases ha
      exact ⟨fun _ => he, fun _ => rfl⟩
  · rename_i he
    refine ⟨fun a ha => ?_, fun a ha => ?_, by simp⟩
    · cases ha
      exact ⟨fun x => (by cases x), fun x => absurd x he⟩
    · rw [← List.cons_append, List.getLast?_append] at ha
      simp at ha
      subst ha
      exact ⟨fun x => (by cases x), fun x => absurd x he⟩

theorem tokN_noTwo {ts : List Tk} (h : TreeP ts) : ∀ f k, k < ts.length → ts.length - k ≤ f → NoTwo (tokN ts f k)
  | 0, k, hk, hf => by omega
  | f + 1, k, hk, hf => by
    have hle := endN_le hk
    unfold tokN
    rw [nodeAt_at hk]
    split
    · trivial
    · rename_i he
      -- the kids from e on: no two texts, and the first of them a text only where the node at e is one
      have key : ∀ d e i, endN ts k - e ≤ d → FamAt ts k i e → NoTwo ((kidsFrom ts k e (endN ts k)).flatMap (tokN ts f)) ∧ ∀ b, ((kidsFrom ts k e (endN ts k)).flatMap (tokN ts f)).head? = some b → e < endN ts k ∧ ∀ h' : e < ts.length, (b.kind = 3 ↔ ts[e].name.size = 0) := by
        intro d
        induction d with
        | zero =>
          intro e i hd fa
          have : e = endN ts k := by have := fa.hi; omega
          rw [this, kidsFrom_none (fun i g1 g2 => by omega)]
          exact ⟨trivial, fun b hb => by cases hb⟩
        | succ d ih =>
          intro e i hd fa
          rcases Nat.lt_or_eq_of_le fa.hi with h' | h'
          · have hlo := fa.lo
            have hp := fa.kid h'
            have hen : e < ts.length := by omega
            have hel := endN_le (ts := ts) (k := e) hen
            have hi : i < (kidsN ts k).length := by
              rcases Nat.lt_or_ge i (kidsN ts k).length with q | q
              · exact q
              · exfalso
                have hr := fa.rest
                rw [List.drop_of_length_le q, fam_one h hk hlo h' hp] at hr
                cases hr
            have st := (fa.step h hk hi).2.2.2
            obtain ⟨i1, i2⟩ := ih (endN ts e) (i + 1) (by omega) st
            obtain ⟨t1, t2, t3⟩ := tokN_ends (ts := ts) (f := f) (k := e) (by omega) hen
            rw [fam_one h hk hlo h' hp, List.flatMap_cons]
            refine ⟨NoTwo.app (tokN_noTwo h f e hen (by omega)) i1 (fun a b ha hb ⟨ka, kb⟩ => ?_), fun b hb => ⟨h', fun _ => ?_⟩⟩
            · have ea := (t2 a ha).1 ka
              obtain ⟨hlt, hb2⟩ := i2 b hb
              have hn1 := (node_tx h hen ea).2.2.1
              rw [hn1] at hlt hb2
              have hl1 : e + 1 < ts.length := by omega
              have eb := (hb2 hl1).1 kb
              have hk1 : parI ts (e + 1) = (k : Int) := by have := st.kid (by rw [hn1]; exact hlt); rw [hn1] at this; exact this
              refine (h.2.2.2.2 (e + 1) hl1).2.2.2 ⟨hl1, by omega, eb, ea, ?_⟩
              have q1 := parI_at hl1
              have q2 := parI_at hen
              show ts[e].kind = ts[e + 1].kind
              rw [← q1, ← q2, hk1, hp]
            · rw [List.head?_append] at hb
              cases e0 : (tokN ts f e).head? with
              | none => exact absurd (List.head?_eq_none_iff.1 e0) t3
              | some x =>
                rw [e0] at hb
                cases hb
                exact t1 _ e0
          · rw [h', kidsFrom_none (fun i g1 g2 => by omega)]
            exact ⟨trivial, fun b hb => by cases hb⟩
      obtain ⟨k1, _⟩ := key (endN ts k - (k + 1)) (k + 1) 0 (Nat.le_refl _) (fam_start h hk)
      rw [kidsTo_from hle.1]
      refine NoTwo.app (l := [opT ts[k]]) trivial (NoTwo.app k1 (m := [clT ts[k]]) trivial (fun a b _ hb ⟨_, kb⟩ => ?_)) (fun a b ha _ ⟨ka, _⟩ => ?_)
      · cases hb
        cases kb
      · cases ha
        cases ka

end Go.Proofs.YteninofjeidljaaGreat

namespace Go.Proofs.YteninofjeidljaaGreat

open Go.RowKit

set_option linter.unusedVariables false

set_option linter.unusedSimpArgs false

end Go.Proofs.YteninofjeidljaaGreat

namespace Go.Proofs.YteninofjeidljaaGreat

open Go.RowKit

set_option linter.unusedVariables false

set_option linter.unusedSimpArgs false

end Go.Proofs.YteninofjeidljaaGreat

namespace Go.Proofs.YteninofjeidljaaGreat

open Go.RowKit

set_option linter.unusedVariables false

set_option linter.unusedSimpArgs false

end Go.Proofs.YteninofjeidljaaGreat
