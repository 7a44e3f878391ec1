/- Steps of reading attrs; a row of attrs that a call has made itself. Plain mathematics: what is shown is read again. Plain mathematics: rows of tokens that are shown are read again. Plain mathematics: what Tokens answers stands again behind showing and reading. -/
import Derived.Test.YteninofjeidljaaGreatM8
import Derived.Test.YteninofjeidljaaGreatM10
import Derived.Test.YteninofjeidljaaGreatM5
import Derived.Test.YteninofjeidljaaGreatM6
import Derived.Test.YteninofjeidljaaGreatM7
import Derived.Test.YteninofjeidljaaGreatM2
import Derived.OwnWalk
import Derived.Deep.RegionLaw
namespace Go.Proofs.YteninofjeidljaaGreat

open Go.RowKit

set_option linter.unusedVariables false

set_option linter.unusedSimpArgs false

theorem runU_le : ∀ (f : Nat) (l acc r : List UInt8), runU f l acc = some r → r.length ≤ acc.length + l.length := by
  intro f
  induction f with
  | zero => intro l acc r h; simp [runU] at h; subst h; omega
  | succ f ih =>
    intro l acc r h
    match l with
    | [] => simp [runU] at h; subst h; simp
    | c :: q =>
      rw [runU] at h
      match hr : readL (c :: q) with
      | none => rw [hr] at h; cases h
      | some (x, k) =>
        rw [hr] at h
        have := ih _ _ _ h
        have hk := readL_le _ _ _ hr
        rw [List.length_append, List.length_drop] at this
        simp at this hk ⊢
        omega

theorem unesc_le {l u : List UInt8} (h : unescL l = some u) : u.length ≤ l.length := by
  unfold unescL at h
  split at h
  · simpa using runU_le _ _ _ _ h
  · cases h

theorem bytesOf_size (l : List UInt8) : (bytesOf l).size = l.length := by unfold bytesOf; simp [ByteArray.size]

theorem atL_end {f : Nat} {l : List UInt8} {acc : List At} (h : ¬ l.head? = some 32) : atL (f + 1) l acc = some (acc, l) := by rw [atL, if_neg h]

theorem atL_bad1 {f : Nat} {l : List UInt8} {acc : List At} (h : l.head? = some 32) (h1 : ¬ (restL [61] l).take 2 = [61, 34]) : atL (f + 1) l acc = none := by rw [atL, if_pos h, if_neg h1]

theorem atL_bad2 {f : Nat} {l : List UInt8} {acc : List At} (h : l.head? = some 32) (h1 : (restL [61] l).take 2 = [61, 34]) (h2 : ¬ (restL [34, 60] ((restL [61] l).drop 2)).head? = some 34) : atL (f + 1) l acc = none := by rw [atL, if_pos h, if_pos h1, if_neg h2]

theorem atL_bad3 {f : Nat} {l : List UInt8} {acc : List At} (h : l.head? = some 32) (h1 : (restL [61] l).take 2 = [61, 34]) (h2 : (restL [34, 60] ((restL [61] l).drop 2)).head? = some 34) (h3 : unescL (tillL [34, 60] ((restL [61] l).drop 2)) = none) : atL (f + 1) l acc = none := by rw [atL, if_pos h, if_pos h1, if_pos h2, h3]

theorem atL_step {f : Nat} {l u : List UInt8} {acc : List At} (h : l.head? = some 32) (h1 : (restL [61] l).take 2 = [61, 34]) (h2 : (restL [34, 60] ((restL [61] l).drop 2)).head? = some 34) (h3 : unescL (tillL [34, 60] ((restL [61] l).drop 2)) = some u) :
    atL (f + 1) l acc = atL f ((restL [34, 60] ((restL [61] l).drop 2)).drop 1) (acc ++ [⟨bytesOf ((tillL [61] l).drop 1), bytesOf u⟩]) := by rw [atL, if_pos h, if_pos h1, if_pos h2, h3]

theorem take2_iff (s : ByteArray) (E : Nat) (a b : UInt8) : (s.data.toList.drop E).take 2 = [a, b] ↔ ∃ h : E + 1 < s.size, s[E] = a ∧ s[E + 1] = b := by
  rcases Nat.lt_or_ge E s.size with h | h
  · rw [drop_at s E h]
    rcases Nat.lt_or_ge (E + 1) s.size with h' | h'
    · rw [drop_at s (E + 1) h']
      simp only [List.take_succ_cons, List.take_zero, List.cons.injEq, and_true]
      exact ⟨fun e => ⟨h', e⟩, fun ⟨_, e⟩ => e⟩
    · rw [drop_end s (E + 1) h']
      constructor
      · intro e
        have := congrArg List.length e
        simp at this
      · rintro ⟨x, _⟩
        omega
  · rw [drop_end s E h]
    constructor
    · intro e
      cases e
    · rintro ⟨x, _⟩
      omega

theorem atC_snoc (l : List At) (x : At) : atC (l ++ [x]) = atC l ++ [.string x.name, .string x.value] := by
  unfold atC
  rw [List.flatMap_append]
  simp

theorem own_atRow {w : World} {B : Nat} {v : Value} {l : List At} (h : w.ownsRow B 114 2 v l.length (atC l)) : ∃ a cap, v = .slice a l.length cap ∧ AtRow w a l ∧ (∀ g o, a = some ⟨g, o, none⟩ → B ≤ g) := by
  rcases h.2 with ⟨rfl, h0⟩ | ⟨g, cap, cur, rfl, hg, hh, hn, hc, hs, ht⟩
  · exact ⟨none, 0, by rw [h0], fun j hj => by omega, fun g o e => by cases e⟩
  · refine ⟨some ⟨g, 0, none⟩, cap, rfl, fun j hj => ⟨g, 0, rfl, lt_of_heap hh, ?_, ?_⟩, fun g' o' e => by cases e; exact hg⟩
    · obtain ⟨c1, _⟩ := atC_get l j hj
      rw [Lib.cell_of_heap hh, Nat.zero_add, ← Array.getElem?_toList]
      rw [← ht, List.getElem?_take] at c1
      split at c1
      · exact c1
      · cases c1
    · obtain ⟨_, c2⟩ := atC_get l j hj
      rw [Lib.cell_of_heap hh, Nat.zero_add, ← Array.getElem?_toList]
      rw [← ht, List.getElem?_take] at c2
      split at c2
      · exact c2
      · cases c2

theorem add_plain7 (b o j : Nat) : (⟨b, o, none⟩ : Addr).add j = ⟨b, o + j, none⟩ := by unfold Addr.add; split <;> simp_all

theorem two_one (x y : ByteArray) : ∀ u ∈ [Value.string x, .string y], u.oneCell' = true := by
  intro u hu
  simp at hu
  rcases hu with rfl | rfl <;> rfl

end Go.Proofs.YteninofjeidljaaGreat

namespace Go.Proofs.YteninofjeidljaaGreat

open Go.RowKit

set_option linter.unusedVariables false

theorem till_app {g p : List UInt8} (h : ∀ x ∈ p, g.contains x = false) {c : UInt8} (hc : g.contains c = true) (r : List UInt8) : tillL g (p ++ c :: r) = p ∧ restL g (p ++ c :: r) = c :: r := by
  induction p with
  | nil => exact ⟨till_cons_in hc r, by rw [List.nil_append, restL, if_pos hc]⟩
  | cons x p ih =>
    have hx := h x (List.mem_cons_self ..)
    obtain ⟨i1, i2⟩ := ih (fun y hy => h y (List.mem_cons_of_mem _ hy))
    rw [List.cons_append, till_cons_out hx, rest_cons_out hx, i1, i2]
    exact ⟨rfl, rfl⟩

theorem till_all {g p : List UInt8} (h : ∀ x ∈ p, g.contains x = false) : tillL g p = p ∧ restL g p = [] := by
  induction p with
  | nil => exact ⟨rfl, rfl⟩
  | cons x p ih =>
    have hx := h x (List.mem_cons_self ..)
    obtain ⟨i1, i2⟩ := ih (fun y hy => h y (List.mem_cons_of_mem _ hy))
    rw [till_cons_out hx, rest_cons_out hx, i1, i2]
    exact ⟨rfl, rfl⟩

/-- An attr as it is shown, as a list. -/
def atsL : List At → List UInt8
  | [] => []
  | x :: l => (32 :: x.name.data.toList) ++ (61 :: 34 :: escL true x.value.data.toList) ++ (34 :: atsL l)

theorem esc_no34 (l : List UInt8) : ∀ x ∈ escL true l, ([34, 60] : List UInt8).contains x = false := by
  intro x hx
  have h := esc_endless true l x hx
  have h1 : ¬ x = 34 := fun e => h.2.1 rfl (by rw [e]; rfl)
  have h2 : ¬ x = 60 := fun e => h.1 (by rw [e]; rfl)
  simp [h1, h2]

theorem esc_no62 (l : List UInt8) : ∀ x ∈ escL false l, ([60, 62] : List UInt8).contains x = false := by
  intro x hx
  have h := esc_endless false l x hx
  have h1 : ¬ x = 62 := fun e => h.2.2 rfl (by rw [e]; rfl)
  have h2 : ¬ x = 60 := fun e => h.1 (by rw [e]; rfl)
  simp [h1, h2]

/-- A sign that may stand in a name is none of these. -/
def nameSign (x : UInt8) : Prop := ¬ x = 32 ∧ ¬ x = 33 ∧ ¬ x = 47 ∧ ¬ x = 60 ∧ ¬ x = 61 ∧ ¬ x = 62

theorem atL_shown (ats : List At) (h : ∀ x ∈ ats, (∀ y ∈ x.name.data.toList, nameSign y) ∧ plainL x.value.data.toList = true) :
    ∀ (f : Nat) (acc : List At) (q : List UInt8), ¬ q.head? = some 32 → ats.length < f → atL f (atsL ats ++ q) acc = some (acc ++ ats, q) := by
  induction ats with
  | nil =>
    intro f acc q hq hf
    obtain ⟨f, rfl⟩ : ∃ f', f = f' + 1 := ⟨f - 1, by omega⟩
    rw [atL, show atsL [] ++ q = q from rfl, if_neg hq, List.append_nil]
  | cons x l ih =>
    intro f acc q hq hf
    obtain ⟨f, rfl⟩ : ∃ f', f = f' + 1 := ⟨f - 1, by omega⟩
    obtain ⟨hn, hp⟩ := h x (List.mem_cons_self ..)
    have e : atsL (x :: l) ++ q = (32 :: x.name.data.toList) ++ 61 :: (34 :: (escL true x.value.data.toList ++ 34 :: (atsL l ++ q))) := by
      simp [atsL]
    have h61 : ∀ y ∈ (32 :: x.name.data.toList), ([61] : List UInt8).contains y = false := by
      intro y hy
      rcases List.mem_cons.1 hy with rfl | hy
      · rfl
      · have := (hn y hy).2.2.2.2.1
        simp [this]
    obtain ⟨t1, t2⟩ := till_app h61 (c := 61) rfl (34 :: (escL true x.value.data.toList ++ 34 :: (atsL l ++ q)))
    obtain ⟨t3, t4⟩ := till_app (esc_no34 x.value.data.toList) (c := 34) rfl (atsL l ++ q)
    have d2 : (restL [61] ((32 :: x.name.data.toList) ++ 61 :: (34 :: (escL true x.value.data.toList ++ 34 :: (atsL l ++ q))))).drop 2 = escL true x.value.data.toList ++ 34 :: (atsL l ++ q) := by rw [t2]; rfl
    rw [e, atL_step (u := x.value.data.toList) rfl (by rw [t2]; rfl) (by rw [d2, t4]; rfl) (by rw [d2, t3]; exact unesc_esc true _ hp), d2, t4, t1]
    simp only [List.drop_succ_cons, List.drop_zero]
    rw [ih (fun y hy => h y (List.mem_cons_of_mem _ hy)) f _ q hq (by simp at hf; omega)]
    have e2 : (⟨bytesOf x.name.data.toList, bytesOf x.value.data.toList⟩ : At) = x := rfl
    rw [e2]
    simp

theorem let_sign {y : UInt8} (h : letB y.toNat = true ∨ y.toNat = 58) : nameSign y := by
  have key : ∀ n : Nat, n ≤ 62 → ¬ n = 58 → ¬ y.toNat = n := by
    intro n hn h8 e
    rw [e] at h
    rcases h with h | h
    · unfold letB at h
      simp at h
      omega
    · exact h8 h
  exact ⟨fun e => key 32 (by omega) (by omega) (by rw [e]; rfl), fun e => key 33 (by omega) (by omega) (by rw [e]; rfl), fun e => key 47 (by omega) (by omega) (by rw [e]; rfl), fun e => key 60 (by omega) (by omega) (by rw [e]; rfl), fun e => key 61 (by omega) (by omega) (by rw [e]; rfl), fun e => key 62 (by omega) (by omega) (by rw [e]; rfl)⟩

theorem letters_mem {l : List UInt8} (h : lettersL l = true) : 1 ≤ l.length ∧ ∀ y ∈ l, letB y.toNat = true := by
  unfold lettersL allL at h
  simp only [Bool.and_eq_true, decide_eq_true_eq, List.all_eq_true] at h
  exact ⟨h.1.1, h.2⟩

theorem name_signs {l : List UInt8} (h : nameL l = true) : 1 ≤ l.length ∧ ∀ y ∈ l, nameSign y := by
  unfold nameL at h
  cases hc : colonAt l with
  | none =>
    rw [hc] at h
    obtain ⟨h1, h2⟩ := letters_mem h
    exact ⟨h1, fun y hy => let_sign (.inl (h2 y hy))⟩
  | some a =>
    rw [hc] at h
    simp only [Bool.and_eq_true] at h
    obtain ⟨p1, p2⟩ := letters_mem h.1
    obtain ⟨q1, q2⟩ := letters_mem h.2
    unfold preL at p1 p2
    unfold locL at q1 q2
    rw [hc] at p1 p2 q1 q2
    simp only at p1 p2 q1 q2
    unfold colonAt at hc
    obtain ⟨ha, hb, _⟩ := List.findIdx?_eq_some_iff_getElem.1 hc
    refine ⟨by omega, fun y hy => ?_⟩
    obtain ⟨j, hj, rfl⟩ := List.getElem_of_mem hy
    rcases Nat.lt_trichotomy j a with h' | h' | h'
    · exact let_sign (.inl (p2 _ (List.mem_take_iff_getElem.2 ⟨j, by omega, rfl⟩)))
    · subst h'
      exact let_sign (.inr (by simpa using hb))
    · exact let_sign (.inl (q2 _ (List.mem_drop_iff_getElem.2 ⟨j - (a + 1), by omega, by congr 1; omega⟩)))

theorem tag_close_shown {n r : List UInt8} (h : ∀ y ∈ n, nameSign y) : tagL (60 :: 47 :: n ++ 62 :: r) = some (⟨2, bytesOf n, [], ⟨#[]⟩⟩, false, r) := by
  have h62 : ∀ y ∈ (60 :: 47 :: n), ([62] : List UInt8).contains y = false := by
    intro y hy
    rcases List.mem_cons.1 hy with rfl | hy
    · rfl
    · rcases List.mem_cons.1 hy with rfl | hy
      · rfl
      · have := (h y hy).2.2.2.2.2
        simp [this]
  obtain ⟨t1, t2⟩ := till_app h62 (c := 62) rfl r
  unfold tagL
  rw [t1, t2, if_pos (show (List.drop 1 (60 :: 47 :: n ++ 62 :: r)).head? = some 47 from rfl), if_pos (show (62 :: r).head? = some 62 from rfl)]
  rfl

theorem atsL_len (l : List At) : l.length ≤ (atsL l).length := by
  induction l with
  | nil => exact Nat.le_refl _
  | cons x l ih => simp [atsL]; omega

theorem tag_open_shown {n r : List UInt8} {ats : List At} (hn : 1 ≤ n.length) (h : ∀ y ∈ n, nameSign y) (ha : ∀ x ∈ ats, (∀ y ∈ x.name.data.toList, nameSign y) ∧ plainL x.value.data.toList = true) :
    tagL (60 :: (n ++ (atsL ats ++ 62 :: r))) = some (⟨1, bytesOf n, ats, ⟨#[]⟩⟩, false, r) := by
  have hg : ∀ y ∈ n, ([32, 47, 62] : List UInt8).contains y = false := by
    intro y hy
    have h1 := (h y hy).1
    have h2 := (h y hy).2.2.1
    have h3 := (h y hy).2.2.2.2.2
    simp [h1, h2, h3]
  have hcr : ∃ c q, atsL ats ++ 62 :: r = c :: q ∧ ([32, 47, 62] : List UInt8).contains c = true := by
    cases ats with
    | nil => exact ⟨62, r, rfl, rfl⟩
    | cons x l => exact ⟨32, _, rfl, rfl⟩
  obtain ⟨c, q, hq, hc⟩ := hcr
  obtain ⟨t1, t2⟩ := till_app hg hc q
  rw [← hq] at t1 t2
  have h47 : ¬ ((60 :: (n ++ (atsL ats ++ 62 :: r))).drop 1).head? = some 47 := by
    cases n with
    | nil => simp at hn
    | cons y n =>
      intro e
      have : y = 47 := by simpa using e
      exact (h y (List.mem_cons_self ..)).2.2.1 this
  have hat := atL_shown ats ha ((60 :: (n ++ (atsL ats ++ 62 :: r))).length + 1) [] (62 :: r) (by intro e; simp at e) (by
    have := atsL_len ats
    simp
    omega)
  unfold tagL
  rw [if_neg h47, show (60 :: (n ++ (atsL ats ++ 62 :: r))).drop 1 = n ++ (atsL ats ++ 62 :: r) from rfl, t1, t2, hat]
  simp only [if_pos (show (62 :: r).head? = some 62 from rfl)]
  rfl

end Go.Proofs.YteninofjeidljaaGreat

namespace Go.Proofs.YteninofjeidljaaGreat

open Go.RowKit

set_option linter.unusedVariables false

/-- A token as it is shown, as a list. -/
def showL (t : Tk) : List UInt8 :=
  if t.kind = 2 then 60 :: 47 :: t.name.data.toList ++ 62 :: []
  else if t.kind = 3 then escL false t.text.data.toList
  else 60 :: (t.name.data.toList ++ (atsL t.attrs ++ 62 :: []))

theorem size0 {s : ByteArray} (h : s.size = 0) : s = ⟨#[]⟩ := by
  apply ByteArray.ext
  exact Array.eq_empty_of_size_eq_zero h

theorem attrs_signs {l : List At} (h : AttrsOk l) : ∀ x ∈ l, (∀ y ∈ x.name.data.toList, nameSign y) ∧ plainL x.value.data.toList = true := by
  intro x hx
  obtain ⟨j, hj, rfl⟩ := List.getElem_of_mem hx
  have := h.2.1 j hj hj
  exact ⟨(name_signs this.1).2, this.2.1⟩

theorem app_list (a b : ByteArray) : (a ++ b).data.toList = a.data.toList ++ b.data.toList := by simp

theorem atsS_list (l : List At) (h : ∀ x ∈ l, plainL x.value.data.toList = true) : ∀ s : ByteArray, (atsS l s).data.toList = s.data.toList ++ atsL l := by
  induction l with
  | nil => intro s; simp [atsS, atsL]
  | cons x l ih =>
    intro s
    have hp := h x (List.mem_cons_self ..)
    rw [atsS, ih (fun y hy => h y (List.mem_cons_of_mem _ hy)), app_list]
    unfold atS escS escapedL
    rw [if_pos hp]
    simp only [app_list, atsL]
    simp

end Go.Proofs.YteninofjeidljaaGreat

namespace Go.Proofs.YteninofjeidljaaGreat

open Go.RowKit

set_option linter.unusedVariables false

/-- No two texts side by side. -/
def noAdj (ts : List Tk) : Prop := ∀ i (h : i + 1 < ts.length), ¬ (ts[i].kind = 3 ∧ ts[i + 1].kind = 3)

theorem noAdj_tail {t : Tk} {ts : List Tk} (h : noAdj (t :: ts)) : noAdj ts := fun i hi => by
  have := h (i + 1) (by simp; omega)
  simpa using this

theorem noAdj_head {t u : Tk} {ts : List Tk} (h : noAdj (t :: u :: ts)) : ¬ (t.kind = 3 ∧ u.kind = 3) := by
  have := h 0 (by simp)
  simpa using this

theorem flush_nil (out : List Tk) : flushL [] out = out := by unfold flushL; rw [if_pos rfl]

end Go.Proofs.YteninofjeidljaaGreat
