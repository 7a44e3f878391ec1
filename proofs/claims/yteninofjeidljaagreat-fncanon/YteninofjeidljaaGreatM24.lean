/- TokensOf of what has grown are the tokens (plain mathematics of promise 8). The tokens of a tree: each is right, no two texts side by side (plain mathematics of promise 8). What is written in the one way is read again as those tokens, or not at all (mathematics alone). Rows of nodes taken from a tree, one by one (mathematics alone): branches, what is put in. -/
import Derived.Test.YteninofjeidljaaGreatM23
import Derived.Test.YteninofjeidljaaGreatM9
namespace Go.Proofs.YteninofjeidljaaGreat

set_option linter.unusedVariables false

end Go.Proofs.YteninofjeidljaaGreat

namespace Go.Proofs.YteninofjeidljaaGreat

set_option linter.unusedVariables false

/-- No two texts side by side. -/
def NoTwo : List Tk → Prop
  | [] => True
  | [_] => True
  | a :: b :: r => ¬ (a.kind = 3 ∧ b.kind = 3) ∧ NoTwo (b :: r)

theorem NoTwo.app : ∀ {l m : List Tk}, NoTwo l → NoTwo m → (∀ a b, l.getLast? = some a → m.head? = some b → ¬ (a.kind = 3 ∧ b.kind = 3)) → NoTwo (l ++ m)
  | [], m, _, hm, _ => hm
  | [a], [], _, _, _ => trivial
  | [a], b :: r, _, hm, h => ⟨h a b rfl rfl, hm⟩
  | a :: b :: r, m, hl, hm, h => ⟨hl.1, NoTwo.app (l := b :: r) hl.2 hm (fun x y hx hy => h x y (by rw [List.getLast?_cons_cons]; exact hx) hy)⟩

/-- What the tokens of a node begin and end with. -/
theorem tokN_ends {ts : List Tk} {f k : Nat} (hf : ¬ f = 0) (hk : k < ts.length) : (∀ a, (tokN ts f k).head? = some a → (a.kind = 3 ↔ ts[k].name.size = 0)) ∧ (∀ a, (tokN ts f k).getLast? = some a → (a.kind = 3 ↔ ts[k].name.size = 0)) ∧ ¬ tokN ts f k = [] := by
  obtain ⟨f', rfl⟩ : ∃ f', f = f' + 1 := ⟨f - 1, by omega⟩
  unfold tokN
  rw [nodeAt_at hk]
  split
  · rename_i he
    refine ⟨fun a ha => ?_, fun a ha => ?_, by simp⟩
    · cases ha
      exact ⟨fun _ => he, fun _ => rfl⟩
    · cases ha
      exact ⟨fun _ => he, fun _ => rfl⟩
  · rename_i he
    refine ⟨fun a ha => ?_, fun a ha => ?_, by simp⟩
    · cases ha
      exact ⟨fun x => (by cases x), fun x => absurd x he⟩
    · rw [← List.cons_append, List.getLast?_append] at ha
      simp at ha
      subst ha
      exact ⟨fun x => (by cases x), fun x => absurd x he⟩

theorem tokN_noTwo {ts : List Tk} (h : TreeP ts) : ∀ f k, k < ts.length → ts.length - k ≤ f → NoTwo (tokN ts f k)
  | 0, k, hk, hf => by omega
  | f + 1, k, hk, hf => by
    have hle := endN_le hk
    unfold tokN
    rw [nodeAt_at hk]
    split
    · trivial
    · rename_i he
      -- the kids from e on: no two texts, and the first of them a text only where the node at e is one
      have key : ∀ d e i, endN ts k - e ≤ d → FamAt ts k i e → NoTwo ((kidsFrom ts k e (endN ts k)).flatMap (tokN ts f)) ∧ ∀ b, ((kidsFrom ts k e (endN ts k)).flatMap (tokN ts f)).head? = some b → e < endN ts k ∧ ∀ h' : e < ts.length, (b.kind = 3 ↔ ts[e].name.size = 0) := by
        intro d
        induction d with
        | zero =>
          intro e i hd fa
          have : e = endN ts k := by have := fa.hi; omega
          rw [this, kidsFrom_none (fun i g1 g2 => by omega)]
          exact ⟨trivial, fun b hb => by cases hb⟩
        | succ d ih =>
          intro e i hd fa
          rcases Nat.lt_or_eq_of_le fa.hi with h' | h'
          · have hlo := fa.lo
            have hp := fa.kid h'
            have hen : e < ts.length := by omega
            have hel := endN_le (ts := ts) (k := e) hen
            have hi : i < (kidsN ts k).length := by
              rcases Nat.lt_or_ge i (kidsN ts k).length with q | q
              · exact q
              · exfalso
                have hr := fa.rest
                rw [List.drop_of_length_le q, fam_one h hk hlo h' hp] at hr
                cases hr
            have st := (fa.step h hk hi).2.2.2
            obtain ⟨i1, i2⟩ := ih (endN ts e) (i + 1) (by omega) st
            obtain ⟨t1, t2, t3⟩ := tokN_ends (ts := ts) (f := f) (k := e) (by omega) hen
            rw [fam_one h hk hlo h' hp, List.flatMap_cons]
            refine ⟨NoTwo.app (tokN_noTwo h f e hen (by omega)) i1 (fun a b ha hb ⟨ka, kb⟩ => ?_), fun b hb => ⟨h', fun _ => ?_⟩⟩
            · have ea := (t2 a ha).1 ka
              obtain ⟨hlt, hb2⟩ := i2 b hb
              have hn1 := (node_tx h hen ea).2.2.1
              rw [hn1] at hlt hb2
              have hl1 : e + 1 < ts.length := by omega
              have eb := (hb2 hl1).1 kb
              have hk1 : parI ts (e + 1) = (k : Int) := by have := st.kid (by rw [hn1]; exact hlt); rw [hn1] at this; exact this
              refine (h.2.2.2.2 (e + 1) hl1).2.2.2 ⟨hl1, by omega, eb, ea, ?_⟩
              have q1 := parI_at hl1
              have q2 := parI_at hen
              show ts[e].kind = ts[e + 1].kind
              rw [← q1, ← q2, hk1, hp]
            · rw [List.head?_append] at hb
              cases e0 : (tokN ts f e).head? with
              | none => exact absurd (List.head?_eq_none_iff.1 e0) t3
              | some x =>
                rw [e0] at hb
                cases hb
                exact t1 _ e0
          · rw [h', kidsFrom_none (fun i g1 g2 => by omega)]
            exact ⟨trivial, fun b hb => by cases hb⟩
      obtain ⟨k1, _⟩ := key (endN ts k - (k + 1)) (k + 1) 0 (Nat.le_refl _) (fam_start h hk)
      rw [kidsTo_from hle.1]
      refine NoTwo.app (l := [opT ts[k]]) trivial (NoTwo.app k1 (m := [clT ts[k]]) trivial (fun a b _ hb ⟨_, kb⟩ => ?_)) (fun a b ha _ ⟨ka, _⟩ => ?_)
      · cases hb
        cases kb
      · cases ha
        cases ka

theorem NoTwo.at_ : ∀ {l : List Tk}, NoTwo l → ∀ i (h : i + 1 < l.length), ¬ (l[i].kind = 3 ∧ l[i + 1].kind = 3)
  | [], _, i, hi => absurd hi (by simp)
  | [a], _, i, hi => absurd hi (by simp)
  | a :: b :: r, h, 0, hi => h.1
  | a :: b :: r, h, i + 1, hi => NoTwo.at_ (l := b :: r) h.2 i (by simpa using hi)

end Go.Proofs.YteninofjeidljaaGreat

namespace Go.Proofs.YteninofjeidljaaGreat

open Go.RowKit

set_option linter.unusedVariables false

theorem nmD_signs {p : ByteArray} (h : PreOk p) : ∀ y ∈ (nmD p).data.toList, nameSign y := by
  have h3 : ∀ y : UInt8, y = 110 ∨ y = 115 ∨ y = 58 → nameSign y := fun y hy => by
    rcases hy with rfl | rfl | rfl <;> (unfold nameSign; decide)
  intro y hy
  unfold nmD at hy
  by_cases h0 : p.size = 0
  · rw [if_pos h0] at hy
    have : y ∈ ([110, 115] : List UInt8) := hy
    simp at this
    exact h3 y (by rcases this with h | h <;> simp [h])
  · rw [if_neg h0, app_list] at hy
    rcases List.mem_append.1 hy with h' | h'
    · have : y ∈ ([110, 115, 58] : List UInt8) := h'
      simp at this
      exact h3 y (by rcases this with h | h | h <;> simp [h])
    · rcases h with h | h
      · exact absurd h h0
      · exact let_sign (.inl ((letters_mem h).2 y h'))

theorem pre_ok {nm : ByteArray} {l : List At} {p : ByteArray} (h : p ∈ preL7 nm l) : PreOk p := by
  rcases ((pre_strict nm l).2 p).1 h with rfl | ⟨x, _, _, rfl⟩
  · exact preS_ok _
  · exact preS_ok _

theorem tokC_right {ts : List Tk} (hN : NamesP ts) : ∀ f k sd, k < ts.length → ∀ t ∈ tokC ts f k sd, TokW t
  | 0, k, sd, _, t, ht => absurd ht List.not_mem_nil
  | f + 1, k, sd, hk, t, ht => by
    unfold tokC at ht
    by_cases hn : (nodeAt ts k).name.size = 0
    · rw [if_pos hn] at ht
      rw [List.mem_singleton.1 ht]
      obtain ⟨⟨h1, h2⟩, _⟩ := hN.1.2.2.2.2 k hk
      rw [nodeAt_at hk] at hn ⊢
      unfold nodeB at h2
      rw [if_pos hn] at h2
      unfold textB at h2
      simp only [Bool.and_eq_true, decide_eq_true_eq] at h2
      exact .inr (.inr ⟨rfl, rfl, rfl, h2.2.1, h2.2.2.1⟩)
    · rw [if_neg hn] at ht
      obtain ⟨e1, e2⟩ := el_attrs hN.1 hk hn
      rcases List.mem_cons.1 ht with rfl | ht
      · refine .inl ⟨rfl, e1, fun x hx => ?_, rfl⟩
        rcases List.mem_append.1 hx with h | h
        · obtain ⟨p, hp, rfl⟩ := List.mem_map.1 h
          exact ⟨nmD_signs (pre_ok (List.mem_filter.1 hp).1), mean_plain (right_of hN hk hn) p⟩
        · exact e2 x (oth_mem h)
      · rcases List.mem_append.1 ht with h | h
        · obtain ⟨j, hj, h2⟩ := List.mem_flatMap.1 h
          exact tokC_right hN f j _ (kidsN_lt hj) t h2
        · rw [List.mem_singleton.1 h]
          exact .inr (.inl ⟨rfl, e1, rfl, rfl⟩)

theorem tokC_kinds {ts : List Tk} (hT : TreeP ts) : ∀ f k sd, k < ts.length → (tokC ts f k sd).map (·.kind) = (tokN ts f k).map (·.kind)
  | 0, k, sd, _ => rfl
  | f + 1, k, sd, hk => by
    unfold tokC tokN
    by_cases hn : (nodeAt ts k).name.size = 0
    · rw [if_pos hn, if_pos hn]
    · rw [if_neg hn, if_neg hn, List.map_cons, List.map_cons, List.map_append, List.map_append, ← kidsTo_end hT hk, List.map_flatMap, List.map_flatMap]
      have key : ∀ l : List Nat, (∀ j ∈ l, j < ts.length) → (l.flatMap fun j => (tokC ts f j (saidL ts k sd (nodeAt ts k))).map (·.kind)) = l.flatMap fun j => (tokN ts f j).map (·.kind) := by
        intro l
        induction l with
        | nil => intro _; rfl
        | cons j l ih => intro hl; rw [List.flatMap_cons, List.flatMap_cons, tokC_kinds hT f j _ (hl j (by simp)), ih fun i hi => hl i (by simp [hi])]
      rw [key _ fun j hj => kidsN_lt hj]
      rfl

theorem adj_kinds {l m : List Tk} (h : l.map (·.kind) = m.map (·.kind)) (hm : noAdj m) : noAdj l := by
  have hlen : l.length = m.length := by
    have := congrArg List.length h
    simpa using this
  have hat : ∀ i (h1 : i < l.length) (h2 : i < m.length), l[i].kind = m[i].kind := fun i h1 h2 => by
    have := congrArg (fun z => z[i]?) h
    simp only [List.getElem?_map, List.getElem?_eq_getElem h1, List.getElem?_eq_getElem h2, Option.map_some] at this
    exact Option.some.inj this
  intro i hi
  rw [hat i (by omega) (by omega), hat (i + 1) hi (by omega)]
  exact hm i (by omega)

/-- What is read of what is written. -/
theorem canon_read {ts : List Tk} (hN : NamesP ts) {f k : Nat} (sd : List At) (hk : k < ts.length) (hf : ts.length - k ≤ f) :
    toksF (canonN ts (-1) f k sd).data.toList = none ∨ (toksF (canonN ts (-1) f k sd).data.toList = some (tokC ts f k sd) ∧ (∀ t ∈ tokC ts f k sd, tokB t = true) ∧ (tokC ts f k sd).length ≤ 120) := by
  rw [canon_toks hN f k sd hk]
  exact toks_of_shown (tokC_right hN f k sd hk) (adj_kinds (tokC_kinds hN.1 f k sd hk) (tokN_noTwo hN.1 f k hk hf).at_)

end Go.Proofs.YteninofjeidljaaGreat

namespace Go.Proofs.YteninofjeidljaaGreat

open Go.RowKit

set_option linter.unusedVariables false

/-- The node, with another parent. -/
def shK (k : Int) (t : Tk) : Tk := ⟨k, t.name, t.attrs, t.text⟩

/-- m nodes from k on, each by its place. -/
def segN (f : Nat → Tk → Int) (ts : List Tk) (k : Nat) : Nat → List Tk
  | 0 => []
  | m + 1 => segN f ts k m ++ (match ts[k + m]? with | some t => [shK (f (k + m) t) t] | none => [])

theorem segN_next {f : Nat → Tk → Int} {ts : List Tk} {k m : Nat} {t : Tk} (h : ts[k + m]? = some t) : segN f ts k (m + 1) = segN f ts k m ++ [shK (f (k + m) t) t] := by
  show segN f ts k m ++ _ = _
  rw [h]

theorem segN_len {f : Nat → Tk → Int} {ts : List Tk} {k : Nat} : ∀ m, k + m ≤ ts.length → (segN f ts k m).length = m
  | 0, _ => rfl
  | m + 1, h => by
    rw [segN_next (List.getElem?_eq_getElem (show k + m < ts.length by omega)), List.length_append, segN_len m (by omega)]
    rfl

theorem segN_get {f : Nat → Tk → Int} {ts : List Tk} {k : Nat} : ∀ m, k + m ≤ ts.length → ∀ j, j < m → ∀ t, ts[k + j]? = some t → (segN f ts k m)[j]? = some (shK (f (k + j) t) t)
  | 0, _, j, hj, _, _ => absurd hj (Nat.not_lt_zero _)
  | m + 1, h, j, hj, t, ht => by
    have hl : (segN f ts k m).length = m := segN_len m (by omega)
    rw [segN_next (List.getElem?_eq_getElem (show k + m < ts.length by omega))]
    by_cases e : j < m
    · rw [List.getElem?_append_left (by rw [hl]; exact e)]
      exact segN_get m (by omega) j e t ht
    · have e2 : j = m := by omega
      subst e2
      rw [List.getElem?_append_right (by rw [hl]; exact Nat.le_refl _), hl, Nat.sub_self]
      rw [List.getElem?_eq_getElem (show k + j < ts.length by omega)] at ht
      rw [Option.some.inj ht]
      rfl

/-- Sizes stay. -/
theorem segN_sz {f : Nat → Tk → Int} {ts : List Tk} {k b : Nat} (h : TksSz b ts) : ∀ m, TksSz b (segN f ts k m)
  | 0 => fun t ht => absurd ht List.not_mem_nil
  | m + 1 => by
    cases e : ts[k + m]? with
    | none =>
      have e2 : segN f ts k (m + 1) = segN f ts k m := by
        show segN f ts k m ++ _ = _
        rw [e, List.append_nil]
      rw [e2]
      exact segN_sz h m
    | some t =>
      rw [segN_next e]
      intro u hu
      rcases List.mem_append.1 hu with h' | h'
      · exact segN_sz h m u h'
      · rw [List.mem_singleton] at h'
        subst h'
        exact h t (List.mem_of_getElem? e)

/-- Who is whose parent in a branch. -/
def brF (k : Nat) (i : Nat) (t : Tk) : Int := if i = k then -1 else t.kind - (k : Int)

/-- The branch there. -/
def branchL (ts : List Tk) (k : Nat) : List Tk := segN (brF k) ts k (endN ts k - k)

theorem branchL_len {ts : List Tk} {k : Nat} (hk : k < ts.length) : (branchL ts k).length = endN ts k - k := by
  have h := endN_le hk
  exact segN_len _ (by omega)

/-- In a tree a parent is a place of it, or none. -/
theorem tree_kind {ts : List Tk} (hT : TreeP ts) {i : Nat} {t : Tk} (h : ts[i]? = some t) : -1 ≤ t.kind ∧ t.kind < 50 := by
  have hi : i < ts.length := by
    rcases Nat.lt_or_ge i ts.length with h' | h'
    · exact h'
    · rw [List.getElem?_eq_none h'] at h; cases h
  have e : t.kind = parI ts i := by unfold parI; rw [h]
  rcases (hT.2.2.2.2 i hi).2.1 with h0 | ⟨p, _, hp, hel⟩
  · subst h0
    rw [e, hT.2.2.1]
    omega
  · obtain ⟨hpl, _⟩ := hel
    have := hT.2.1
    rw [e, ← hp]
    omega

end Go.Proofs.YteninofjeidljaaGreat
