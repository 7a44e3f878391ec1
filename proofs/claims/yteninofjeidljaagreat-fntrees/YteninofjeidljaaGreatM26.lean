/- Plain mathematics: what is escaped, unescaped, is the text; and it has no sign that would end it. Plain mathematics: what is shown is read again. Plain mathematics: rows of tokens that are shown are read again. Plain mathematics: what Tokens answers stands again behind showing and reading. -/
import Derived.Test.YteninofjeidljaaGreatM5
import Derived.Test.YteninofjeidljaaGreatM9
import Derived.Test.YteninofjeidljaaGreatM14
import Derived.Test.YteninofjeidljaaGreatM25
import Derived.Test.YteninofjeidljaaGreatM13
import Derived.Test.YteninofjeidljaaGreatM3
import Derived.WalkKit
namespace Go.Proofs.YteninofjeidljaaGreat

open Go.RowKit

set_option linter.unusedVariables false

set_option linter.unusedSimpArgs false

theorem escL_cons (q : Bool) (c : UInt8) (l : List UInt8) : escL q (c :: l) = escB q c ++ escL q l := by simp [escL]

/-- The shapes in which a byte is written. -/
theorem escB_shape (q : Bool) (c : UInt8) :
    (c = 38 ∧ escB q c = amp) ∨ (c = 60 ∧ escB q c = lt) ∨ (c = 62 ∧ q = false ∧ escB q c = gt) ∨ (c = 34 ∧ q = true ∧ escB q c = quot) ∨
    (escB q c = [c] ∧ ¬ c.toNat = 38 ∧ ¬ c.toNat = 60 ∧ (q = false → ¬ c.toNat = 62) ∧ (q = true → ¬ c.toNat = 34)) := by
  by_cases h38 : c.toNat = 38
  · exact .inl ⟨UInt8.toNat_inj.1 h38, by simp [escB, h38, amp]⟩
  · by_cases h60 : c.toNat = 60
    · exact .inr (.inl ⟨UInt8.toNat_inj.1 h60, by simp [escB, h60, lt]⟩)
    · by_cases h62 : c.toNat = 62
      · cases q
        · exact .inr (.inr (.inl ⟨UInt8.toNat_inj.1 h62, rfl, by simp [escB, h62, gt]⟩))
        · exact .inr (.inr (.inr (.inr ⟨by simp [escB, h62], h38, h60, by simp, by simp; omega⟩)))
      · by_cases h34 : c.toNat = 34
        · cases q
          · exact .inr (.inr (.inr (.inr ⟨by simp [escB, h34], h38, h60, by simp; omega, by simp⟩)))
          · exact .inr (.inr (.inr (.inl ⟨UInt8.toNat_inj.1 h34, rfl, by simp [escB, h34, quot]⟩)))
        · exact .inr (.inr (.inr (.inr ⟨by simp [escB, h38, h60, h62, h34], h38, h60, fun _ => h62, fun _ => h34⟩)))

theorem runU_mark (m : List UInt8) (x : UInt8) (k f : Nat) (r acc : List UInt8) (hm : m.length = k) (hk : 1 ≤ k) (hr : readL (m ++ r) = some (x, k)) (hf : (m ++ r).length ≤ f) : ∃ f', r.length ≤ f' ∧ runU f (m ++ r) acc = runU f' r (acc ++ [x]) := by
  rw [List.length_append] at hf
  cases f with
  | zero => omega
  | succ f =>
    refine ⟨f, by omega, ?_⟩
    have hne : m ++ r ≠ [] := by
      intro e
      have := congrArg List.length e
      rw [List.length_append, hm] at this
      simp only [List.length_nil] at this
      omega
    rw [runU_step f _ acc x k (by rw [List.length_append]; omega) hne hr, List.drop_append_of_le_length (by omega), List.drop_of_length_le (by omega), List.nil_append]

theorem pre_self (m r : List UInt8) : m.isPrefixOf (m ++ r) = true := List.isPrefixOf_iff_prefix.2 (List.prefix_append m r)

theorem pre_apart {m n : List UInt8} (r : List UInt8) (h1 : m.isPrefixOf n = false) (h2 : n.isPrefixOf m = false) : n.isPrefixOf (m ++ r) = false := by
  cases h : n.isPrefixOf (m ++ r) with
  | false => rfl
  | true =>
    rcases List.prefix_or_prefix_of_prefix (List.isPrefixOf_iff_prefix.1 h) (List.prefix_append m r) with h3 | h3
    · rw [List.isPrefixOf_iff_prefix.2 h3] at h2; exact absurd h2 (by decide)
    · rw [List.isPrefixOf_iff_prefix.2 h3] at h1; exact absurd h1 (by decide)

theorem run_esc (q : Bool) (l : List UInt8) : ∀ f acc, (escL q l).length ≤ f → runU f (escL q l) acc = some (acc ++ l) := by
  induction l with
  | nil => intro f acc _; simp [escL, runU_end]
  | cons c l ih =>
    intro f acc hf
    rw [escL_cons] at hf ⊢
    have hr : readL (escB q c ++ escL q l) = some (c, (escB q c).length) ∧ 1 ≤ (escB q c).length := by
      rcases escB_shape q c with ⟨rfl, e⟩ | ⟨rfl, e⟩ | ⟨rfl, _, e⟩ | ⟨rfl, _, e⟩ | ⟨e, h, _⟩
      · rw [e]; exact ⟨readL_amp _ (pre_self _ _), by decide⟩
      · rw [e]; exact ⟨readL_lt _ (pre_apart _ (by decide) (by decide)) (pre_self _ _), by decide⟩
      · rw [e]; exact ⟨readL_gt _ (pre_apart _ (by decide) (by decide)) (pre_apart _ (by decide) (by decide)) (pre_self _ _), by decide⟩
      · rw [e]; exact ⟨readL_quot _ (pre_apart _ (by decide) (by decide)) (pre_apart _ (by decide) (by decide)) (pre_apart _ (by decide) (by decide)) (pre_self _ _), by decide⟩
      · rw [e]; exact ⟨readL_plain _ _ h, by simp⟩
    obtain ⟨f', hf', e⟩ := runU_mark (escB q c) c _ f (escL q l) acc rfl hr.2 hr.1 hf
    rw [e, ih f' _ hf', List.append_assoc]
    rfl

theorem plainL_app (a b : List UInt8) : plainL (a ++ b) = (plainL a && plainL b) := by simp [plainL]

theorem plain_esc (q : Bool) (l : List UInt8) (h : plainL l = true) : plainL (escL q l) = true := by
  induction l with
  | nil => rfl
  | cons c l ih =>
    have hc : plainB c.toNat = true ∧ plainL l = true := by simpa [plainL] using h
    rw [escL_cons, plainL_app, ih hc.2, Bool.and_true]
    rcases escB_shape q c with ⟨_, e⟩ | ⟨_, e⟩ | ⟨_, _, e⟩ | ⟨_, _, e⟩ | ⟨e, _⟩
    · rw [e]; decide
    · rw [e]; decide
    · rw [e]; decide
    · rw [e]; decide
    · rw [e]; simpa [plainL] using hc.1

theorem unesc_esc (q : Bool) (l : List UInt8) (h : plainL l = true) : unescL (escL q l) = some l := by
  rw [unescL, if_pos (plain_esc q l h), run_esc q l _ [] (Nat.le_refl _)]
  rfl

theorem esc_longer (q : Bool) (l : List UInt8) : l.length ≤ (escL q l).length := by
  induction l with
  | nil => simp
  | cons c l ih =>
    rw [escL_cons, List.length_append, List.length_cons]
    have : 1 ≤ (escB q c).length := by
      rcases escB_shape q c with ⟨_, e⟩ | ⟨_, e⟩ | ⟨_, _, e⟩ | ⟨_, _, e⟩ | ⟨e, _⟩ <;> rw [e] <;> simp [amp, lt, gt, quot]
    omega

/-- No sign that would end it. -/
def endless (q : Bool) (x : UInt8) : Prop := ¬ x.toNat = 60 ∧ (q = true → ¬ x.toNat = 34) ∧ (q = false → ¬ x.toNat = 62)

theorem esc_endless (q : Bool) (l : List UInt8) : ∀ x ∈ escL q l, endless q x := by
  induction l with
  | nil => intro x hx; simp [escL] at hx
  | cons c l ih =>
    intro x hx
    rw [escL_cons, List.mem_append] at hx
    rcases hx with hx | hx
    · rcases escB_shape q c with ⟨_, e⟩ | ⟨_, e⟩ | ⟨_, _, e⟩ | ⟨_, _, e⟩ | ⟨e, h1, h2, h3, h4⟩
      · rw [e] at hx; simp [amp] at hx; rcases hx with rfl | rfl | rfl | rfl | rfl <;> exact ⟨by decide, fun _ => by decide, fun _ => by decide⟩
      · rw [e] at hx; simp [lt] at hx; rcases hx with rfl | rfl | rfl | rfl <;> exact ⟨by decide, fun _ => by decide, fun _ => by decide⟩
      · rw [e] at hx; simp [gt] at hx; rcases hx with rfl | rfl | rfl | rfl <;> exact ⟨by decide, fun _ => by decide, fun _ => by decide⟩
      · rw [e] at hx; simp [quot] at hx; rcases hx with rfl | rfl | rfl | rfl | rfl | rfl <;> exact ⟨by decide, fun _ => by decide, fun _ => by decide⟩
      · rw [e] at hx; simp at hx; subst hx; exact ⟨h2, h4, h3⟩
    · exact ih x hx

end Go.Proofs.YteninofjeidljaaGreat

namespace Go.Proofs.YteninofjeidljaaGreat

open Go.RowKit

set_option linter.unusedVariables false

theorem till_app {g p : List UInt8} (h : ∀ x ∈ p, g.contains x = false) {c : UInt8} (hc : g.contains c = true) (r : List UInt8) : tillL g (p ++ c :: r) = p ∧ restL g (p ++ c :: r) = c :: r := by
  induction p with
  | nil => exact ⟨till_cons_in hc r, by rw [List.nil_append, restL, if_pos hc]⟩
  | cons x p ih =>
    have hx := h x (List.mem_cons_self ..)
    obtain ⟨i1, i2⟩ := ih (fun y hy => h y (List.mem_cons_of_mem _ hy))
    rw [List.cons_append, till_cons_out hx, rest_cons_out hx, i1, i2]
    exact ⟨rfl, rfl⟩

theorem till_all {g p : List UInt8} (h : ∀ x ∈ p, g.contains x = false) : tillL g p = p ∧ restL g p = [] := by
  induction p with
  | nil => exact ⟨rfl, rfl⟩
  | cons x p ih =>
    have hx := h x (List.mem_cons_self ..)
    obtain ⟨i1, i2⟩ := ih (fun y hy => h y (List.mem_cons_of_mem _ hy))
    rw [till_cons_out hx, rest_cons_out hx, i1, i2]
    exact ⟨rfl, rfl⟩

/-- An attr as it is shown, as a list. -/
def atsL : List At → List UInt8
  | [] => []
  | x :: l => (32 :: x.name.data.toList) ++ (61 :: 34 :: escL true x.value.data.toList) ++ (34 :: atsL l)

theorem esc_no34 (l : List UInt8) : ∀ x ∈ escL true l, ([34, 60] : List UInt8).contains x = false := by
  intro x hx
  have h := esc_endless true l x hx
  have h1 : ¬ x = 34 := fun e => h.2.1 rfl (by rw [e]; rfl)
  have h2 : ¬ x = 60 := fun e => h.1 (by rw [e]; rfl)
  simp [h1, h2]

theorem esc_no62 (l : List UInt8) : ∀ x ∈ escL false l, ([60, 62] : List UInt8).contains x = false := by
  intro x hx
  have h := esc_endless false l x hx
  have h1 : ¬ x = 62 := fun e => h.2.2 rfl (by rw [e]; rfl)
  have h2 : ¬ x = 60 := fun e => h.1 (by rw [e]; rfl)
  simp [h1, h2]

/-- A sign that may stand in a name is none of these. -/
def nameSign (x : UInt8) : Prop := ¬ x = 32 ∧ ¬ x = 33 ∧ ¬ x = 47 ∧ ¬ x = 60 ∧ ¬ x = 61 ∧ ¬ x = 62

theorem atL_shown (ats : List At) (h : ∀ x ∈ ats, (∀ y ∈ x.name.data.toList, nameSign y) ∧ plainL x.value.data.toList = true) :
    ∀ (f : Nat) (acc : List At) (q : List UInt8), ¬ q.head? = some 32 → ats.length < f → atL f (atsL ats ++ q) acc = some (acc ++ ats, q) := by
  induction ats with
  | nil =>
    intro f acc q hq hf
    obtain ⟨f, rfl⟩ : ∃ f', f = f' + 1 := ⟨f - 1, by omega⟩
    rw [atL, show atsL [] ++ q = q from rfl, if_neg hq, List.append_nil]
  | cons x l ih =>
    intro f acc q hq hf
    obtain ⟨f, rfl⟩ : ∃ f', f = f' + 1 := ⟨f - 1, by omega⟩
    obtain ⟨hn, hp⟩ := h x (List.mem_cons_self ..)
    have e : atsL (x :: l) ++ q = (32 :: x.name.data.toList) ++ 61 :: (34 :: (escL true x.value.data.toList ++ 34 :: (atsL l ++ q))) := by
      simp [atsL]
    have h61 : ∀ y ∈ (32 :: x.name.data.toList), ([61] : List UInt8).contains y = false := by
      intro y hy
      rcases List.mem_cons.1 hy with rfl | hy
      · rfl
      · have := (hn y hy).2.2.2.2.1
        simp [this]
    obtain ⟨t1, t2⟩ := till_app h61 (c := 61) rfl (34 :: (escL true x.value.data.toList ++ 34 :: (atsL l ++ q)))
    obtain ⟨t3, t4⟩ := till_app (esc_no34 x.value.data.toList) (c := 34) rfl (atsL l ++ q)
    have d2 : (restL [61] ((32 :: x.name.data.toList) ++ 61 :: (34 :: (escL true x.value.data.toList ++ 34 :: (atsL l ++ q))))).drop 2 = escL true x.value.data.toList ++ 34 :: (atsL l ++ q) := by rw [t2]; rfl
    rw [e, atL_step (u := x.value.data.toList) rfl (by rw [t2]; rfl) (by rw [d2, t4]; rfl) (by rw [d2, t3]; exact unesc_esc true _ hp), d2, t4, t1]
    simp only [List.drop_succ_cons, List.drop_zero]
    rw [ih (fun y hy => h y (List.mem_cons_of_mem _ hy)) f _ q hq (by simp at hf; omega)]
    have e2 : (⟨bytesOf x.name.data.toList, bytesOf x.value.data.toList⟩ : At) = x := rfl
    rw [e2]
    simp

theorem let_sign {y : UInt8} (h : letB y.toNat = true ∨ y.toNat = 58) : nameSign y := by
  have key : ∀ n : Nat, n ≤ 62 → ¬ n = 58 → ¬ y.toNat = n := by
    intro n hn h8 e
    rw [e] at h
    rcases h with h | h
    · unfold letB at h
      simp at h
      omega
    · exact h8 h
  exact ⟨fun e => key 32 (by omega) (by omega) (by rw [e]; rfl), fun e => key 33 (by omega) (by omega) (by rw [e]; rfl), fun e => key 47 (by omega) (by omega) (by rw [e]; rfl), fun e => key 60 (by omega) (by omega) (by rw [e]; rfl), fun e => key 61 (by omega) (by omega) (by rw [e]; rfl), fun e => key 62 (by omega) (by omega) (by rw [e]; rfl)⟩

theorem letters_mem {l : List UInt8} (h : lettersL l = true) : 1 ≤ l.length ∧ ∀ y ∈ l, letB y.toNat = true := by
  unfold lettersL allL at h
  simp only [Bool.and_eq_true, decide_eq_true_eq, List.all_eq_true] at h
  exact ⟨h.1.1, h.2⟩

theorem name_signs {l : List UInt8} (h : nameL l = true) : 1 ≤ l.length ∧ ∀ y ∈ l, nameSign y := by
  unfold nameL at h
  cases hc : colonAt l with
  | none =>
    rw [hc] at h
    obtain ⟨h1, h2⟩ := letters_mem h
    exact ⟨h1, fun y hy => let_sign (.inl (h2 y hy))⟩
  | some a =>
    rw [hc] at h
    simp only [Bool.and_eq_true] at h
    obtain ⟨p1, p2⟩ := letters_mem h.1
    obtain ⟨q1, q2⟩ := letters_mem h.2
    unfold preL at p1 p2
    unfold locL at q1 q2
    rw [hc] at p1 p2 q1 q2
    simp only at p1 p2 q1 q2
    unfold colonAt at hc
    obtain ⟨ha, hb, _⟩ := List.findIdx?_eq_some_iff_getElem.1 hc
    refine ⟨by omega, fun y hy => ?_⟩
    obtain ⟨j, hj, rfl⟩ := List.getElem_of_mem hy
    rcases Nat.lt_trichotomy j a with h' | h' | h'
    · exact let_sign (.inl (p2 _ (List.mem_take_iff_getElem.2 ⟨j, by omega, rfl⟩)))
    · subst h'
      exact let_sign (.inr (by simpa using hb))
    · exact let_sign (.inl (q2 _ (List.mem_drop_iff_getElem.2 ⟨j - (a + 1), by omega, by congr 1; omega⟩)))

theorem tag_close_shown {n r : List UInt8} (h : ∀ y ∈ n, nameSign y) : tagL (60 :: 47 :: n ++ 62 :: r) = some (⟨2, bytesOf n, [], ⟨#[]⟩⟩, false, r) := by
  have h62 : ∀ y ∈ (60 :: 47 :: n), ([62] : List UInt8).contains y = false := by
    intro y hy
    rcases List.mem_cons.1 hy with rfl | hy
    · rfl
    · rcases List.mem_cons.1 hy with rfl | hy
      · rfl
      · have := (h y hy).2.2.2.2.2
        simp [this]
  obtain ⟨t1, t2⟩ := till_app h62 (c := 62) rfl r
  unfold tagL
  rw [t1, t2, if_pos (show (List.drop 1 (60 :: 47 :: n ++ 62 :: r)).head? = some 47 from rfl), if_pos (show (62 :: r).head? = some 62 from rfl)]
  rfl

theorem atsL_len (l : List At) : l.length ≤ (atsL l).length := by
  induction l with
  | nil => exact Nat.le_refl _
  | cons x l ih => simp [atsL]; omega

theorem tag_open_shown {n r : List UInt8} {ats : List At} (hn : 1 ≤ n.length) (h : ∀ y ∈ n, nameSign y) (ha : ∀ x ∈ ats, (∀ y ∈ x.name.data.toList, nameSign y) ∧ plainL x.value.data.toList = true) :
    tagL (60 :: (n ++ (atsL ats ++ 62 :: r))) = some (⟨1, bytesOf n, ats, ⟨#[]⟩⟩, false, r) := by
  have hg : ∀ y ∈ n, ([32, 47, 62] : List UInt8).contains y = false := by
    intro y hy
    have h1 := (h y hy).1
    have h2 := (h y hy).2.2.1
    have h3 := (h y hy).2.2.2.2.2
    simp [h1, h2, h3]
  have hcr : ∃ c q, atsL ats ++ 62 :: r = c :: q ∧ ([32, 47, 62] : List UInt8).contains c = true := by
    cases ats with
    | nil => exact ⟨62, r, rfl, rfl⟩
    | cons x l => exact ⟨32, _, rfl, rfl⟩
  obtain ⟨c, q, hq, hc⟩ := hcr
  obtain ⟨t1, t2⟩ := till_app hg hc q
  rw [← hq] at t1 t2
  have h47 : ¬ ((60 :: (n ++ (atsL ats ++ 62 :: r))).drop 1).head? = some 47 := by
    cases n with
    | nil => simp at hn
    | cons y n =>
      intro e
      have : y = 47 := by simpa using e
      exact (h y (List.mem_cons_self ..)).2.2.1 this
  have hat := atL_shown ats ha ((60 :: (n ++ (atsL ats ++ 62 :: r))).length + 1) [] (62 :: r) (by intro e; simp at e) (by
    have := atsL_len ats
    simp
    omega)
  unfold tagL
  rw [if_neg h47, show (60 :: (n ++ (atsL ats ++ 62 :: r))).drop 1 = n ++ (atsL ats ++ 62 :: r) from rfl, t1, t2, hat]
  simp only [if_pos (show (62 :: r).head? = some 62 from rfl)]
  rfl

end Go.Proofs.YteninofjeidljaaGreat

namespace Go.Proofs.YteninofjeidljaaGreat

open Go.RowKit

set_option linter.unusedVariables false

/-- A token as it is shown, as a list. -/
def showL (t : Tk) : List UInt8 :=
  if t.kind = 2 then 60 :: 47 :: t.name.data.toList ++ 62 :: []
  else if t.kind = 3 then escL false t.text.data.toList
  else 60 :: (t.name.data.toList ++ (atsL t.attrs ++ 62 :: []))

theorem size0 {s : ByteArray} (h : s.size = 0) : s = ⟨#[]⟩ := by
  apply ByteArray.ext
  exact Array.eq_empty_of_size_eq_zero h

theorem tok_cases {t : Tk} (h : tokB t = true) :
    (t.kind = 1 ∧ nameL t.name.data.toList = true ∧ AttrsOk t.attrs ∧ t.text = ⟨#[]⟩) ∨ (t.kind = 2 ∧ nameL t.name.data.toList = true ∧ t.attrs = [] ∧ t.text = ⟨#[]⟩)
    ∨ (t.kind = 3 ∧ t.name = ⟨#[]⟩ ∧ t.attrs = [] ∧ plainL t.text.data.toList = true ∧ 1 ≤ t.text.size) := by
  unfold tokB at h
  split at h
  · rename_i hk
    simp only [Bool.and_eq_true, decide_eq_true_eq] at h
    refine .inl ⟨hk, h.1, ?_, size0 h.2.2⟩
    by_cases ha : AttrsOk t.attrs
    · exact ha
    · rw [attrsB_f ha] at h
      exact absurd h.2.1 Bool.false_ne_true
  · split at h
    · rename_i hk
      simp only [Bool.and_eq_true, decide_eq_true_eq] at h
      exact .inr (.inl ⟨hk, h.1, List.eq_nil_of_length_eq_zero h.2.1, size0 h.2.2⟩)
    · split at h
      · rename_i hk
        unfold textB at h
        simp only [Bool.and_eq_true, decide_eq_true_eq] at h
        exact .inr (.inr ⟨hk, size0 h.1, List.eq_nil_of_length_eq_zero h.2.1, h.2.2.1, h.2.2.2.1⟩)
      · cases h

theorem attrs_signs {l : List At} (h : AttrsOk l) : ∀ x ∈ l, (∀ y ∈ x.name.data.toList, nameSign y) ∧ plainL x.value.data.toList = true := by
  intro x hx
  obtain ⟨j, hj, rfl⟩ := List.getElem_of_mem hx
  have := h.2.1 j hj hj
  exact ⟨(name_signs this.1).2, this.2.1⟩

theorem app_list (a b : ByteArray) : (a ++ b).data.toList = a.data.toList ++ b.data.toList := by simp

theorem atsS_list (l : List At) (h : ∀ x ∈ l, plainL x.value.data.toList = true) : ∀ s : ByteArray, (atsS l s).data.toList = s.data.toList ++ atsL l := by
  induction l with
  | nil => intro s; simp [atsS, atsL]
  | cons x l ih =>
    intro s
    have hp := h x (List.mem_cons_self ..)
    rw [atsS, ih (fun y hy => h y (List.mem_cons_of_mem _ hy)), app_list]
    unfold atS escS escapedL
    rw [if_pos hp]
    simp only [app_list, atsL]
    simp

theorem showS_list {t : Tk} (h : tokB t = true) : (showS t).data.toList = showL t := by
  unfold showS showL
  rcases tok_cases h with ⟨hk, hn, ha, ht⟩ | ⟨hk, hn, ha, ht⟩ | ⟨hk, hn, ha, hp, h1⟩
  · rw [hk]
    simp only [if_neg (show ¬ (1 : Int) = 2 by decide), if_neg (show ¬ (1 : Int) = 3 by decide)]
    rw [app_list, atsS_list _ (fun x hx => (attrs_signs ha x hx).2), app_list]
    simp
  · rw [hk]
    simp only [if_pos]
    rw [app_list, app_list]
    simp
  · rw [hk]
    simp only [if_neg (show ¬ (3 : Int) = 2 by decide), if_pos]
    unfold escS escapedL
    rw [if_pos hp]

theorem lex_tag_shown {t : Tk} (h : tokB t = true) (hk : ¬ t.kind = 3) (f : Nat) (r text : List UInt8) (out : List Tk) : lexL (f + 1) (showL t ++ r) text out = lexL f r [] (flushL text out ++ [t]) := by
  obtain ⟨k, n, a, x⟩ := t
  rcases tok_cases h with ⟨hk1, hn, ha, ht⟩ | ⟨hk1, hn, ha, ht⟩ | ⟨hk1, _⟩
  · simp only at hk1 hn ha ht
    subst hk1 ht
    obtain ⟨n1, n2⟩ := name_signs hn
    have e : showL ⟨1, n, a, ⟨#[]⟩⟩ ++ r = 60 :: (n.data.toList ++ (atsL a ++ 62 :: r)) := by
      unfold showL
      simp
    have ht := tag_open_shown (r := r) n1 n2 (attrs_signs ha)
    have hr : remL (60 :: (n.data.toList ++ (atsL a ++ 62 :: r))) = none := by
      unfold remL
      rw [if_neg]
      intro e
      cases hl : n.data.toList with
      | nil => rw [hl] at n1; simp at n1
      | cons y q =>
        rw [hl] at e n2
        have : y = 33 := by
          have := congrArg (fun l => l[1]?) e
          simpa using this
        exact (n2 y (List.mem_cons_self ..)).2.1 this
    rw [e, lex_tag rfl hr ht]
    rfl
  · simp only at hk1 hn ha ht
    subst hk1 ha ht
    obtain ⟨n1, n2⟩ := name_signs hn
    have e : showL ⟨2, n, [], ⟨#[]⟩⟩ ++ r = 60 :: 47 :: n.data.toList ++ 62 :: r := by
      unfold showL
      simp
    have ht := tag_close_shown (r := r) n2
    have hr : remL (60 :: 47 :: n.data.toList ++ 62 :: r) = none := by
      unfold remL
      rw [if_neg]
      intro e
      have := congrArg (fun l => l[1]?) e
      simp at this
    rw [e, lex_tag rfl hr ht]
    rfl
  · exact absurd hk1 hk

theorem lex_text_shown {t : Tk} (h : tokB t = true) (hk : t.kind = 3) (f : Nat) (r : List UInt8) (hr : r = [] ∨ ∃ q, r = 60 :: q) (out : List Tk) : lexL (f + 1) (showL t ++ r) [] out = lexL f r t.text.data.toList out := by
  rcases tok_cases h with ⟨hk1, _⟩ | ⟨hk1, _⟩ | ⟨hk1, hn, ha, hp, h1⟩
  · rw [hk] at hk1; exact absurd hk1 (by decide)
  · rw [hk] at hk1; exact absurd hk1 (by decide)
  · have e : showL t = escL false t.text.data.toList := by
      unfold showL
      rw [hk]
      simp only [if_neg (show ¬ (3 : Int) = 2 by decide), if_pos]
    have hlen : 1 ≤ (escL false t.text.data.toList).length := by
      have h2 := esc_longer false t.text.data.toList
      have h3 : t.text.data.toList.length = t.text.size := rfl
      omega
    have hu := unesc_esc false _ hp
    have hno := esc_no62 t.text.data.toList
    rw [e]
    obtain ⟨E, hE⟩ : ∃ E, escL false t.text.data.toList = E := ⟨_, rfl⟩
    rw [hE] at hlen hu hno ⊢
    have hts : tillL [60, 62] (E ++ r) = E ∧ restL [60, 62] (E ++ r) = r := by
      rcases hr with rfl | ⟨q, rfl⟩
      · rw [List.append_nil]; exact till_all hno
      · exact till_app hno rfl q
    have hne : ¬ E ++ r = [] := by
      intro x
      have := congrArg List.length x
      rw [List.length_append] at this
      simp at this
      rw [this.1] at hlen
      simp at hlen
    have hh : ¬ (E ++ r).head? = some 60 := by
      cases E with
      | nil => simp at hlen
      | cons y q =>
        intro x
        have hy : y = 60 := by simpa using x
        have := hno y (List.mem_cons_self ..)
        rw [hy] at this
        exact absurd this (by decide)
    have hrh : ¬ (restL [60, 62] (E ++ r)).head? = some 62 := by
      rw [hts.2]
      rcases hr with rfl | ⟨q, rfl⟩
      · intro x; cases x
      · intro x; simp at x
    rw [lex_text hne hh (by rw [hts.1]; exact hu) hrh, hts.2, List.nil_append]

end Go.Proofs.YteninofjeidljaaGreat

namespace Go.Proofs.YteninofjeidljaaGreat

open Go.RowKit

set_option linter.unusedVariables false

/-- No two texts side by side. -/
def noAdj (ts : List Tk) : Prop := ∀ i (h : i + 1 < ts.length), ¬ (ts[i].kind = 3 ∧ ts[i + 1].kind = 3)

theorem noAdj_tail {t : Tk} {ts : List Tk} (h : noAdj (t :: ts)) : noAdj ts := fun i hi => by
  have := h (i + 1) (by simp; omega)
  simpa using this

theorem noAdj_head {t u : Tk} {ts : List Tk} (h : noAdj (t :: u :: ts)) : ¬ (t.kind = 3 ∧ u.kind = 3) := by
  have := h 0 (by simp)
  simpa using this

theorem flush_nil (out : List Tk) : flushL [] out = out := by unfold flushL; rw [if_pos rfl]

theorem flush_text {t : Tk} (h : tokB t = true) (hk : t.kind = 3) (out : List Tk) : flushL t.text.data.toList out = out ++ [t] := by
  rcases tok_cases h with ⟨hk1, _⟩ | ⟨hk1, _⟩ | ⟨hk1, hn, ha, hp, h1⟩
  · rw [hk] at hk1; exact absurd hk1 (by decide)
  · rw [hk] at hk1; exact absurd hk1 (by decide)
  · obtain ⟨k, n, a, x⟩ := t
    simp only at hk1 hn ha h1
    subst hk1 hn ha
    unfold flushL
    rw [if_neg]
    · rfl
    · intro e
      have h3 : x.data.toList.length = x.size := rfl
      rw [show x.data.toList = [] from e] at h3
      simp at h3
      omega

theorem show_head {t : Tk} (h : tokB t = true) (hk : ¬ t.kind = 3) : ∃ q, showL t = 60 :: q := by
  unfold showL
  split
  · exact ⟨_, rfl⟩
  · exact ⟨_, rfl⟩

/-- Tokens that are shown one behind the other are read again. -/
theorem lex_all : ∀ (ts : List Tk), (∀ t ∈ ts, tokB t = true) → noAdj ts → ∀ (f : Nat) (text : List UInt8) (out : List Tk), (¬ text = [] → ∀ u, ts.head? = some u → ¬ u.kind = 3) → ts.length < f →
    lexL f (ts.flatMap showL) text out = some (flushL text out ++ ts) := by
  intro ts
  induction ts with
  | nil =>
    intro _ _ f text out _ hf
    obtain ⟨f, rfl⟩ : ∃ f', f = f' + 1 := ⟨f - 1, by simp at hf; omega⟩
    rw [List.flatMap_nil, lex_end, List.append_nil]
  | cons t ts ih =>
    intro hok hadj f text out htx hf
    obtain ⟨f, rfl⟩ : ∃ f', f = f' + 1 := ⟨f - 1, by simp at hf; omega⟩
    have ht := hok t (List.mem_cons_self ..)
    have hok' := fun u hu => hok u (List.mem_cons_of_mem _ hu)
    have hf' : ts.length < f := by simp at hf; omega
    rw [List.flatMap_cons]
    by_cases hk : t.kind = 3
    · have h0 : text = [] := by
        by_cases h0 : text = []
        · exact h0
        · exact absurd hk (htx h0 t rfl)
      subst h0
      have hnx : ∀ u, ts.head? = some u → ¬ u.kind = 3 := by
        intro u hu
        cases ts with
        | nil => cases hu
        | cons v q =>
          simp at hu
          subst hu
          exact fun x => noAdj_head hadj ⟨hk, x⟩
      have hr : ts.flatMap showL = [] ∨ ∃ q, ts.flatMap showL = 60 :: q := by
        cases ts with
        | nil => exact .inl rfl
        | cons v q =>
          obtain ⟨x, hx⟩ := show_head (hok' v (List.mem_cons_self ..)) (hnx v rfl)
          exact .inr ⟨x ++ q.flatMap showL, by rw [List.flatMap_cons, hx]; rfl⟩
      rw [lex_text_shown ht hk f _ hr out, ih hok' (noAdj_tail hadj) f _ out (fun _ => hnx) hf', flush_text ht hk, flush_nil, List.append_assoc]
      rfl
    · rw [lex_tag_shown ht hk, ih hok' (noAdj_tail hadj) f [] _ (fun x => absurd rfl x) hf', flush_nil, List.append_assoc]
      rfl

theorem plain_app (a b : List UInt8) : plainL (a ++ b) = (plainL a && plainL b) := by simp [plainL]

theorem plain_cons (c : UInt8) (a : List UInt8) : plainL (c :: a) = (plainB c.toNat && plainL a) := by simp [plainL]

theorem escB_plain (q : Bool) (c : UInt8) (h : plainB c.toNat = true) : plainL (escB q c) = true := by
  unfold escB
  (repeat' split) <;> first | decide | (rw [plain_cons, h]; rfl)

theorem escL_plain (q : Bool) (l : List UInt8) (h : plainL l = true) : plainL (escL q l) = true := by
  induction l with
  | nil => rfl
  | cons c l ih =>
    rw [plain_cons, Bool.and_eq_true] at h
    rw [escL_cons, plain_app, escB_plain q c h.1, ih h.2]
    rfl

theorem name_plain {l : List UInt8} (h : nameL l = true) : plainL l = true := by
  have key : ∀ y : UInt8, letB y.toNat = true ∨ y.toNat = 58 → plainB y.toNat = true := by
    intro y hy
    unfold letB at hy
    unfold plainB
    simp at hy ⊢
    omega
  unfold nameL at h
  unfold plainL
  rw [List.all_eq_true]
  intro y hy
  cases hc : colonAt l with
  | none =>
    rw [hc] at h
    exact key y (.inl ((letters_mem h).2 y hy))
  | some a =>
    rw [hc] at h
    simp only [Bool.and_eq_true] at h
    have p2 := (letters_mem h.1).2
    have q2 := (letters_mem h.2).2
    unfold preL at p2
    unfold locL at q2
    rw [hc] at p2 q2
    simp only at p2 q2
    unfold colonAt at hc
    obtain ⟨ha, hb, _⟩ := List.findIdx?_eq_some_iff_getElem.1 hc
    obtain ⟨j, hj, rfl⟩ := List.getElem_of_mem hy
    rcases Nat.lt_trichotomy j a with h' | h' | h'
    · exact key _ (.inl (p2 _ (List.mem_take_iff_getElem.2 ⟨j, by omega, rfl⟩)))
    · subst h'
      exact key _ (.inr (by simpa using hb))
    · exact key _ (.inl (q2 _ (List.mem_drop_iff_getElem.2 ⟨j - (a + 1), by omega, by congr 1; omega⟩)))

theorem ats_plain (l : List At) (h : ∀ x ∈ l, nameL x.name.data.toList = true ∧ plainL x.value.data.toList = true) : plainL (atsL l) = true := by
  induction l with
  | nil => rfl
  | cons x l ih =>
    obtain ⟨h1, h2⟩ := h x (List.mem_cons_self ..)
    simp only [atsL, plain_app, plain_cons, name_plain h1, escL_plain true _ h2, ih (fun y hy => h y (List.mem_cons_of_mem _ hy))]
    decide

theorem show_plain {t : Tk} (h : tokB t = true) : plainL (showL t) = true ∧ 1 ≤ (showL t).length := by
  unfold showL
  rcases tok_cases h with ⟨hk, hn, ha, ht⟩ | ⟨hk, hn, ha, ht⟩ | ⟨hk, hn, ha, hp, h1⟩
  · rw [hk]
    simp only [if_neg (show ¬ (1 : Int) = 2 by decide), if_neg (show ¬ (1 : Int) = 3 by decide)]
    refine ⟨?_, by simp⟩
    simp only [plain_app, plain_cons, name_plain hn, ats_plain t.attrs (fun x hx => by
      obtain ⟨j, hj, rfl⟩ := List.getElem_of_mem hx
      have := ha.2.1 j hj hj
      exact ⟨this.1, this.2.1⟩)]
    decide
  · rw [hk]
    simp only [if_pos]
    refine ⟨?_, by simp⟩
    simp only [plain_app, plain_cons, name_plain hn]
    decide
  · rw [hk]
    simp only [if_neg (show ¬ (3 : Int) = 2 by decide), if_pos]
    refine ⟨escL_plain false _ hp, ?_⟩
    have h2 := esc_longer false t.text.data.toList
    have h3 : t.text.data.toList.length = t.text.size := rfl
    omega

theorem flat_plain (g : Tk → List UInt8) (ts : List Tk) (h : ∀ t ∈ ts, plainL (g t) = true) : plainL (ts.flatMap g) = true := by
  induction ts with
  | nil => rfl
  | cons t ts ih => rw [List.flatMap_cons, plain_app, h t (List.mem_cons_self ..), ih (fun u hu => h u (List.mem_cons_of_mem _ hu))]; rfl

theorem flat_long (g : Tk → List UInt8) (k : Nat) (ts : List Tk) (h : ∀ t ∈ ts, k ≤ (g t).length) : k * ts.length ≤ (ts.flatMap g).length := by
  induction ts with
  | nil => simp
  | cons t ts ih =>
    have h1 := h t (List.mem_cons_self ..)
    have h2 := ih (fun u hu => h u (List.mem_cons_of_mem _ hu))
    rw [List.flatMap_cons, List.length_append, List.length_cons, Nat.mul_succ]
    omega

end Go.Proofs.YteninofjeidljaaGreat
