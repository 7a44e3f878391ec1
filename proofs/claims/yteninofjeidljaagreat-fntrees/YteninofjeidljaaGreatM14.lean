/- Plain mathematics of reading: what is left is shorter; the steps of the lexer. The reader of a letter against the document's tokens, by places (mathematics alone). The reader of a letter against the document's tokens: tags, by places (mathematics alone). The reader of a letter in the program: what opening, closing and remark tell of the document's tokens. -/
import Derived.Test.YteninofjeidljaaGreatM9
import Derived.Test.YteninofjeidljaaGreatM13
namespace Go.Proofs.YteninofjeidljaaGreat

open Go.RowKit

set_option linter.unusedVariables false

theorem rest_suf (g l : List UInt8) : restL g l <:+ l := by rw [rest_drop]; exact List.drop_suffix _ _

theorem scanR_suf : ∀ (l r : List UInt8), scanR l = some r → r <:+ l ∧ r.length < l.length
  | [], r, h => by simp [scanR] at h
  | [a], r, h => by simp [scanR] at h
  | [a, b], r, h => by simp [scanR] at h
  | a :: b :: c :: q, r, h => by
    rw [scanR] at h
    split at h
    · split at h
      · simp only [Option.some.injEq] at h
        subst h
        exact ⟨⟨[a, b, c], rfl⟩, by simp; omega⟩
      · cases h
    · have ⟨h1, h2⟩ := scanR_suf (b :: c :: q) r h
      exact ⟨h1.trans ⟨[a], rfl⟩, by simp at h2 ⊢; omega⟩

theorem rem_suf {l r : List UInt8} (h : remL l = some r) : r <:+ l ∧ r.length < l.length := by
  unfold remL at h
  split at h
  · have ⟨h1, h2⟩ := scanR_suf _ _ h
    refine ⟨h1.trans (List.drop_suffix _ _), ?_⟩
    rw [List.length_drop] at h2
    omega
  · cases h

theorem atL_suf : ∀ (f : Nat) (l : List UInt8) (acc ats : List At) (q : List UInt8), atL f l acc = some (ats, q) → q <:+ l := by
  intro f
  induction f with
  | zero => intro l acc ats q h; cases h
  | succ f ih =>
    intro l acc ats q h
    rw [atL] at h
    split at h
    · split at h
      · split at h
        · split at h
          · exact (ih _ _ _ _ h).trans ((List.drop_suffix _ _).trans ((rest_suf _ _).trans ((List.drop_suffix _ _).trans (rest_suf _ _))))
          · cases h
        · cases h
      · cases h
    · simp only [Option.some.injEq, Prod.mk.injEq] at h
      rw [h.2]
      exact List.suffix_refl _

theorem head_pos {q : List UInt8} {c : UInt8} (h : q.head? = some c) : 0 < q.length := by
  cases q with
  | nil => cases h
  | cons => simp

theorem tag_suf {l r : List UInt8} {t : Tk} {c : Bool} (h : tagL l = some (t, c, r)) : r <:+ l ∧ r.length < l.length := by
  have key : ∀ (q : List UInt8) (n : Nat), q <:+ l → 0 < q.length → 0 < n → q.drop n <:+ l ∧ (q.drop n).length < l.length := by
    intro q n hq hp hn
    refine ⟨(List.drop_suffix _ _).trans hq, ?_⟩
    have := hq.length_le
    rw [List.length_drop]
    omega
  unfold tagL at h
  split at h
  · split at h
    · rename_i h6
      simp only [Option.some.injEq, Prod.mk.injEq] at h
      rw [← h.2.2]
      exact key _ 1 (rest_suf _ _) (head_pos h6) (by omega)
    · cases h
  · split at h
    · cases h
    · rename_i ats q hq
      have hs : q <:+ l := (atL_suf _ _ _ _ _ hq).trans ((rest_suf _ _).trans (List.drop_suffix _ _))
      split at h
      · rename_i h6
        simp only [Option.some.injEq, Prod.mk.injEq] at h
        rw [← h.2.2]
        exact key _ 1 hs (head_pos h6) (by omega)
      · split at h
        · rename_i h6
          simp only [Option.some.injEq, Prod.mk.injEq] at h
          rw [← h.2.2]
          refine key _ 2 hs ?_ (by omega)
          cases q with
          | nil => simp at h6
          | cons => simp
        · cases h

theorem suf_pos {s : ByteArray} {p : Nat} {r : List UInt8} (hp : p ≤ s.size) (h : r <:+ s.data.toList.drop p) (hl : r.length < (s.data.toList.drop p).length) :
    r = s.data.toList.drop (s.size - r.length) ∧ p < s.size - r.length := by
  have hlen : s.data.toList.length = s.size := rfl
  rw [List.length_drop, hlen] at hl
  have h' := List.suffix_iff_eq_drop.1 (h.trans (List.drop_suffix _ _))
  rw [hlen] at h'
  exact ⟨h', by omega⟩

theorem lex_text {f : Nat} {l text v : List UInt8} {out : List Tk} (h0 : ¬ l = []) (h1 : ¬ l.head? = some 60) (h2 : unescL (tillL [60, 62] l) = some v) (h3 : ¬ (restL [60, 62] l).head? = some 62) :
    lexL (f + 1) l text out = lexL f (restL [60, 62] l) (text ++ v) out := by
  rw [lexL, if_pos ⟨h0, h1⟩, h2]
  simp only [if_neg h3]

theorem lex_bad1 {f : Nat} {l text : List UInt8} {out : List Tk} (h0 : ¬ l = []) (h1 : ¬ l.head? = some 60) (h2 : unescL (tillL [60, 62] l) = none) : lexL (f + 1) l text out = none := by
  rw [lexL, if_pos ⟨h0, h1⟩, h2]

theorem lex_bad2 {f : Nat} {l text : List UInt8} {out : List Tk} (h0 : ¬ l = []) (h1 : ¬ l.head? = some 60) (h3 : (restL [60, 62] l).head? = some 62) : lexL (f + 1) l text out = none := by
  rw [lexL, if_pos ⟨h0, h1⟩]
  split
  · rfl
  · rw [if_pos h3]

theorem lex_rem {f : Nat} {l text r : List UInt8} {out : List Tk} (h1 : l.head? = some 60) (h2 : remL l = some r) : lexL (f + 1) l text out = lexL f r text out := by
  rw [lexL, if_neg (fun h => h.2 h1), h2]

theorem lex_end {f : Nat} {text : List UInt8} {out : List Tk} : lexL (f + 1) [] text out = some (flushL text out) := by
  rw [lexL, if_neg (fun h => h.1 rfl), show remL [] = none from rfl]
  rfl

theorem lex_bad3 {f : Nat} {l text : List UInt8} {out : List Tk} (h1 : l.head? = some 60) (h2 : remL l = none) (h3 : tagL l = none) : lexL (f + 1) l text out = none := by
  have h0 : ¬ l = [] := fun e => by rw [e] at h1; cases h1
  rw [lexL, if_neg (fun h => h.2 h1), h2]
  simp only [if_neg h0, h3]

theorem lex_tag {f : Nat} {l text r : List UInt8} {out : List Tk} {t : Tk} {c : Bool} (h1 : l.head? = some 60) (h2 : remL l = none) (h3 : tagL l = some (t, c, r)) :
    lexL (f + 1) l text out = lexL f r [] (flushL text out ++ (if c then [t, ⟨2, t.name, [], ⟨#[]⟩⟩] else [t])) := by
  have h0 : ¬ l = [] := fun e => by rw [e] at h1; cases h1
  rw [lexL, if_neg (fun h => h.2 h1), h2]
  simp only [if_neg h0, h3]

end Go.Proofs.YteninofjeidljaaGreat

namespace Go.Proofs.YteninofjeidljaaGreat

open Go.RowKit

set_option linter.unusedVariables false

set_option linter.unusedSimpArgs false

/-- What is told of tokens that were read: they, where all are right and not too many. -/
noncomputable def ansF (V : Option (List Tk)) : Option (List Tk) := match V with
  | none => none
  | some out => if (∀ t ∈ out, tokB t = true) ∧ out.length ≤ 120 then some out else none

theorem toks_ans {s : ByteArray} (h : s.size ≤ 4000) (h2 : plainL s.data.toList = true) : toksF s.data.toList = ansF (lexL (s.size + 1) s.data.toList [] []) := by
  have hl : s.data.toList.length = s.size := rfl
  unfold toksF ansF
  rw [if_pos ⟨by rw [hl]; exact h, h2⟩, hl]
  cases lexL (s.size + 1) s.data.toList [] [] <;> rfl

theorem ans_some {out : List Tk} (h1 : ∀ t ∈ out, tokB t = true) (h2 : out.length ≤ 120) : ansF (some out) = some out := by
  unfold ansF
  simp only
  rw [if_pos ⟨h1, h2⟩]

theorem ans_no {out : List Tk} (h : ¬ ((∀ t ∈ out, tokB t = true) ∧ out.length ≤ 120)) : ansF (some out) = none := by
  unfold ansF
  simp only
  rw [if_neg h]

/-- What was out stays ahead. -/
theorem lex_ahead : ∀ (f : Nat) (l text : List UInt8) (out o : List Tk), lexL f l text out = some o → ∃ r, o = out ++ r
  | 0, l, text, out, o, h => by cases h
  | f + 1, l, text, out, o, h => by
    have hfl : ∃ r, flushL text out = out ++ r := by
      unfold flushL
      split
      · exact ⟨[], (List.append_nil _).symm⟩
      · exact ⟨_, rfl⟩
    rw [lexL] at h
    split at h
    · split at h
      · cases h
      · split at h
        · cases h
        · exact lex_ahead f _ _ _ _ h
    · split at h
      · exact lex_ahead f _ _ _ _ h
      · split at h
        · cases h
          exact hfl
        · split at h
          · cases h
          · obtain ⟨r, e⟩ := lex_ahead f _ _ _ _ h
            obtain ⟨r2, e2⟩ := hfl
            exact ⟨_, by rw [e, e2, List.append_assoc, List.append_assoc]⟩

/-- With a wrong token, or too many, nothing is told. -/
theorem ans_bad {f : Nat} {l text : List UInt8} {out : List Tk} (h : (∃ t ∈ out, tokB t = false) ∨ 120 < out.length) : ansF (lexL f l text out) = none := by
  cases hv : lexL f l text out with
  | none => rfl
  | some o =>
    obtain ⟨r, rfl⟩ := lex_ahead f l text out o hv
    refine ans_no (fun q => ?_)
    rcases h with ⟨t, ht, hb⟩ | h
    · rw [q.1 t (List.mem_append_left _ ht)] at hb
      cases hb
    · have := q.2
      rw [List.length_append] at this
      omega

theorem atL_fuel : ∀ (f f' : Nat) (l : List UInt8) (acc : List At), l.length < f → l.length < f' → atL f l acc = atL f' l acc
  | 0, _, l, acc, h, _ => absurd h (Nat.not_lt_zero _)
  | _ + 1, 0, l, acc, _, h => absurd h (Nat.not_lt_zero _)
  | f + 1, f' + 1, l, acc, h, h' => by
    rw [atL, atL]
    split
    · rename_i hb
      split
      · rename_i h2
        split
        · split
          · refine atL_fuel f f' _ _ ?_ ?_
            all_goals (
              have k1 := (rest_suf [34, 60] ((restL [61] l).drop 2)).length_le
              have k2 := (rest_suf [61] l).length_le
              have k3 : 2 ≤ (restL [61] l).length := by
                have := congrArg List.length h2
                rw [List.length_take] at this
                simp only [List.length_cons, List.length_nil] at this
                omega
              rw [List.length_drop] at k1 ⊢
              omega)
          · rfl
        · rfl
      · rfl
    · rfl

/-- What is known of the letter's tokens at a place where a text or a tag begins. -/
structure LxSt (s : ByteArray) (V : Option (List Tk)) (p : Nat) (tx : ByteArray) (ts : List Tk) : Prop where
  le : p ≤ s.size
  val : ∃ f, s.size - p < f ∧ lexL f (s.data.toList.drop p) tx.data.toList ts = V
  ok : ∀ t ∈ ts, tokB t = true
  few : ts.length ≤ 120
  sm : tx.size ≤ p

theorem LxSt.start (s : ByteArray) : LxSt s (lexL (s.size + 1) s.data.toList [] []) 0 ⟨#[]⟩ [] :=
  ⟨Nat.zero_le _, ⟨s.size + 1, by omega, rfl⟩, fun t h => absurd h List.not_mem_nil, Nat.zero_le _, Nat.zero_le _⟩

/-- Signs at which a text ends. -/
def txtT (c : Nat) : Bool := c == 60 || c == 62

theorem same_txt : Same [60, 62] txtT := fun c => by
  unfold txtT
  rw [List.contains_cons, List.contains_cons, List.contains_nil, Bool.or_false, u8_eq, u8_eq]
  rfl

theorem same_gt : Same [62] (fun c => c == 62) := fun c => by
  rw [List.contains_cons, List.contains_nil, Bool.or_false, u8_eq]
  rfl

theorem unesc_nil : unescL [] = some [] := rfl

section

variable {s : ByteArray} {V : Option (List Tk)} {m q : Nat} {tx : ByteArray} {ts : List Tk}

theorem txt_stop (hm : m ≤ q) (hq : q < s.size) (h : txtT s[q].toNat = true) (hno : ∀ i (hi : i < s.size), m ≤ i → i < q → txtT s[i].toNat = false) : StopsAt txtT s m q := ⟨hm, ⟨hq, h⟩, hno⟩

/-- A text ahead of a tag: it can't be read. -/
theorem LxSt.badText (h : LxSt s V m tx ts) (hst : StopsAt txtT s m q) (hu : unescL (s.extract m q).data.toList = none) : V = none := by
  obtain ⟨f, hf, hv⟩ := h.val
  obtain ⟨g, rfl⟩ : ∃ g, f = g + 1 := ⟨f - 1, by omega⟩
  obtain ⟨hq, ht⟩ := hst.2.1
  have hr := stop_rest same_txt s (q - m) m q rfl hst
  have hne : ¬ m = q := fun e => by
    subst e
    rw [ext_list7, Nat.sub_self, List.take_zero, unesc_nil] at hu
    cases hu
  have hm : m < q := by have := hst.1; omega
  rw [← hv]
  refine lex_bad1 ?_ ?_ ?_
  · rw [drop_at s m (by omega)]; exact List.cons_ne_nil _ _
  · rw [head_at s m (by omega)]
    have h1 := hst.2.2 m (by omega) (Nat.le_refl _) hm
    intro e
    simp only [Option.some.injEq] at e
    rw [e] at h1
    exact absurd h1 (by decide)
  · rw [hr.2, ← ext_list7]
    exact hu

/-- A text ahead of a tag: it is read. -/
theorem LxSt.text (h : LxSt s V m tx ts) (hst : StopsAt txtT s m q) (h60 : ¬ sgnAt s q = 62) {u : List UInt8} (hu : unescL (s.extract m q).data.toList = some u) : LxSt s V q (tx ++ bytesOf u) ts := by
  obtain ⟨f, hf, hv⟩ := h.val
  obtain ⟨g, rfl⟩ : ∃ g, f = g + 1 := ⟨f - 1, by omega⟩
  obtain ⟨hq, ht⟩ := hst.2.1
  have hr := stop_rest same_txt s (q - m) m q rfl hst
  have hul : u.length ≤ q - m := by
    have := unesc_le hu
    rw [ext_list7, List.length_take] at this
    omega
  have hsz : (tx ++ bytesOf u).size ≤ q := by
    rw [ByteArray.size_append, bytesOf_size]
    have := h.sm
    have := hst.1
    omega
  have hap : (tx ++ bytesOf u).data.toList = tx.data.toList ++ u := by
    unfold bytesOf
    simp
  by_cases hm : m = q
  · subst hm
    rw [ext_list7, Nat.sub_self, List.take_zero, unesc_nil] at hu
    cases hu
    exact ⟨h.le, ⟨g + 1, hf, by rw [hap, List.append_nil]; exact hv⟩, h.ok, h.few, hsz⟩
  · have hm : m < q := by have := hst.1; omega
    refine ⟨by omega, ⟨g, by omega, ?_⟩, h.ok, h.few, hsz⟩
    rw [← hv, hap, ← hr.1]
    refine (lex_text ?_ ?_ ?_ ?_).symm
    · rw [drop_at s m (by omega)]; exact List.cons_ne_nil _ _
    · rw [head_at s m (by omega)]
      have h1 := hst.2.2 m (by omega) (Nat.le_refl _) hm
      intro e
      simp only [Option.some.injEq] at e
      rw [e] at h1
      exact absurd h1 (by decide)
    · rw [hr.2, ← ext_list7]
      exact hu
    · rw [hr.1, sgn_head s q 62 (by decide)]
      exact h60

/-- A > outside of tags. -/
theorem LxSt.greater (h : LxSt s V m tx ts) (hst : StopsAt txtT s m q) (h62 : sgnAt s q = 62) : V = none := by
  obtain ⟨f, hf, hv⟩ := h.val
  obtain ⟨g, rfl⟩ : ∃ g, f = g + 1 := ⟨f - 1, by omega⟩
  obtain ⟨hq, ht⟩ := hst.2.1
  have hr := stop_rest same_txt s (q - m) m q rfl hst
  have hle := hst.1
  rw [← hv]
  refine lex_bad2 ?_ ?_ ?_
  · rw [drop_at s m (by omega)]; exact List.cons_ne_nil _ _
  · rw [sgn_head s m 60 (by decide)]
    intro e
    rcases Nat.lt_or_eq_of_le hle with h' | h'
    · obtain ⟨hl, e2⟩ := sgn_lt e (by decide)
      have h1 := hst.2.2 m hl (Nat.le_refl _) h'
      rw [e2] at h1
      exact absurd h1 (by decide)
    · subst h'
      rw [h62] at e
      exact absurd e (by decide)
  · rw [hr.1, sgn_head s q 62 (by decide)]
    exact h62

/-- The letter's end: the last text can't be read. -/
theorem LxSt.badEnd (h : LxSt s V m tx ts) (hno : ∀ i (hi : i < s.size), m ≤ i → txtT s[i].toNat = false) (hu : unescL (s.extract m s.size).data.toList = none) : V = none := by
  obtain ⟨f, hf, hv⟩ := h.val
  obtain ⟨g, rfl⟩ : ∃ g, f = g + 1 := ⟨f - 1, by omega⟩
  have hle := h.le
  have hne : ¬ m = s.size := fun e => by
    rw [e, ext_list7, Nat.sub_self, List.take_zero, unesc_nil] at hu
    cases hu
  have hr := stop_none same_txt s (s.size - m) m rfl hno
  have ht : tillL [60, 62] (s.data.toList.drop m) = (s.extract m s.size).data.toList := by
    have h1 := till_rest [60, 62] (s.data.toList.drop m)
    rw [hr, List.append_nil] at h1
    rw [h1, ext_list7, List.take_of_length_le (by rw [List.length_drop]; exact Nat.le_refl _)]
  rw [← hv]
  refine lex_bad1 ?_ ?_ ?_
  · rw [drop_at s m (by omega)]; exact List.cons_ne_nil _ _
  · rw [head_at s m (by omega)]
    have h1 := hno m (by omega) (Nat.le_refl _)
    intro e
    simp only [Option.some.injEq] at e
    rw [e] at h1
    exact absurd h1 (by decide)
  · rw [ht]
    exact hu

/-- The letter's end. -/
theorem LxSt.fin (h : LxSt s V m tx ts) (hno : ∀ i (hi : i < s.size), m ≤ i → txtT s[i].toNat = false) {u : List UInt8} (hu : unescL (s.extract m s.size).data.toList = some u) : V = some (flushL (tx ++ bytesOf u).data.toList ts) ∧ (tx ++ bytesOf u).size ≤ s.size := by
  obtain ⟨f, hf, hv⟩ := h.val
  obtain ⟨g, rfl⟩ : ∃ g, f = g + 1 := ⟨f - 1, by omega⟩
  have hle := h.le
  have hul : u.length ≤ s.size - m := by
    have := unesc_le hu
    rw [ext_list7, List.length_take] at this
    omega
  have hsz : (tx ++ bytesOf u).size ≤ s.size := by
    rw [ByteArray.size_append, bytesOf_size]
    have := h.sm
    omega
  have hap : (tx ++ bytesOf u).data.toList = tx.data.toList ++ u := by
    unfold bytesOf
    simp
  have hr := stop_none same_txt s (s.size - m) m rfl hno
  refine ⟨?_, hsz⟩
  rw [← hv, hap]
  by_cases hm : m = s.size
  · rw [hm, ext_list7, Nat.sub_self, List.take_zero, unesc_nil] at hu
    cases hu
    rw [hm, drop_end s _ (Nat.le_refl _), lex_end, List.append_nil]
  · have ht : tillL [60, 62] (s.data.toList.drop m) = (s.extract m s.size).data.toList := by
      have h1 := till_rest [60, 62] (s.data.toList.drop m)
      rw [hr, List.append_nil] at h1
      rw [h1, ext_list7, List.take_of_length_le (by rw [List.length_drop]; exact Nat.le_refl _)]
    have hg : ∃ g', g = g' + 1 := ⟨g - 1, by omega⟩
    obtain ⟨g', rfl⟩ := hg
    rw [lex_text (v := u) ?_ ?_ (by rw [ht]; exact hu) (by rw [hr]; intro e; cases e), hr, lex_end]
    · rw [drop_at s m (by omega)]; exact List.cons_ne_nil _ _
    · rw [head_at s m (by omega)]
      have h1 := hno m (by omega) (Nat.le_refl _)
      intro e
      simp only [Option.some.injEq] at e
      rw [e] at h1
      exact absurd h1 (by decide)

end

end Go.Proofs.YteninofjeidljaaGreat

namespace Go.Proofs.YteninofjeidljaaGreat

open Go.RowKit

set_option linter.unusedVariables false

set_option linter.unusedSimpArgs false

theorem list_bytes (x : ByteArray) : bytesOf x.data.toList = x := by
  unfold bytesOf
  rfl

theorem flush_is (tx : ByteArray) (es : List Tn.E) : (flushE tx es).map (·.t) = flushL tx.data.toList (es.map (·.t)) := by
  have hs : tx.size = tx.data.toList.length := rfl
  unfold flushE flushL
  by_cases h : tx.size = 0
  · rw [if_pos h, if_pos (List.eq_nil_of_length_eq_zero (by rw [← hs]; exact h))]
  · rw [if_neg h, if_neg (fun e => h (by rw [hs, e]; rfl)), List.map_append, list_bytes]
    rfl

theorem flush_good {tx : ByteArray} {es : List Tn.E} (h : flushB tx es = true) (h1 : ∀ t ∈ es.map (·.t), tokB t = true) (h2 : (es.map (·.t)).length ≤ 120) : (∀ t ∈ (flushE tx es).map (·.t), tokB t = true) ∧ ((flushE tx es).map (·.t)).length ≤ 120 := by
  unfold flushB at h
  unfold flushE
  split at h
  · rename_i q
    rw [if_pos q]
    exact ⟨h1, h2⟩
  · rename_i q
    rw [if_neg q, List.map_append]
    rw [Bool.and_eq_true] at h
    refine ⟨fun t ht => ?_, ?_⟩
    · rcases List.mem_append.1 ht with h' | h'
      · exact h1 t h'
      · rw [List.map_cons, List.map_nil, List.mem_singleton] at h'
        rw [h']
        exact h.2
    · have := of_decide_eq_true h.1
      rw [List.length_append, List.length_map, List.length_map]
      simpa using this

theorem flush_bad {tx : ByteArray} {es : List Tn.E} (h : flushB tx es = false) : (∃ t ∈ (flushE tx es).map (·.t), tokB t = false) ∨ 120 < ((flushE tx es).map (·.t)).length := by
  unfold flushB at h
  unfold flushE
  split at h
  · cases h
  · rename_i q
    rw [if_neg q, List.map_append]
    rw [Bool.and_eq_false_iff] at h
    rcases h with h | h
    · right
      have := of_decide_eq_false h
      rw [List.length_append, List.length_map, List.length_map]
      simp at this ⊢
      omega
    · left
      exact ⟨_, List.mem_append_right _ (by rw [List.map_cons, List.map_nil]; exact List.mem_singleton.2 rfl), h⟩

section

variable {s : ByteArray} {V : Option (List Tk)} {q : Nat} {tx : ByteArray} {ts : List Tk}

theorem LxSt.step (h : LxSt s V q tx ts) (h60 : sgnAt s q = 60) : ∃ f, s.size - (q + 1) < f ∧ (s.data.toList.drop q).head? = some 60 ∧ q < s.size ∧ lexL (f + 1) (s.data.toList.drop q) tx.data.toList ts = V := by
  obtain ⟨f, hf, hv⟩ := h.val
  obtain ⟨hl, _⟩ := sgn_lt h60 (by decide)
  obtain ⟨g, rfl⟩ : ∃ g, f = g + 1 := ⟨f - 1, by omega⟩
  exact ⟨g, by omega, (sgn_head s q 60 (by decide)).2 h60, hl, hv⟩

theorem rem_no (h : ¬ sgnAt s (q + 1) = 33) : remL (s.data.toList.drop q) = none := by
  unfold remL
  rw [if_neg]
  intro e
  refine h ?_
  have : (s.data.toList.drop (q + 1)).head? = some 33 := by
    have e2 := congrArg (fun l => (l.drop 1).head?) e
    simp only [List.drop_take, List.drop_drop] at e2
    rw [List.head?_take] at e2
    simpa using e2
  exact (sgn_head s (q + 1) 33 (by decide)).1 this

theorem drop1 : (s.data.toList.drop q).drop 1 = s.data.toList.drop (q + 1) := by rw [List.drop_drop]

/-- One more token is read. -/
theorem LxSt.more (h : LxSt s V q tx ts) (h60 : sgnAt s q = 60) (hr : remL (s.data.toList.drop q) = none) {t : Tk} {c : Bool} {e : Nat} (ht : tagL (s.data.toList.drop q) = some (t, c, s.data.toList.drop e)) (hq : q + 1 ≤ e) (he : e ≤ s.size)
    (hok : ∀ x ∈ flushL tx.data.toList ts ++ (if c then [t, ⟨2, t.name, [], ⟨#[]⟩⟩] else [t]), tokB x = true) (hfew : (flushL tx.data.toList ts ++ (if c then [t, ⟨2, t.name, [], ⟨#[]⟩⟩] else [t])).length ≤ 120) :
    LxSt s V e ⟨#[]⟩ (flushL tx.data.toList ts ++ (if c then [t, ⟨2, t.name, [], ⟨#[]⟩⟩] else [t])) := by
  obtain ⟨f, hf, hh, hl, hv⟩ := h.step h60
  exact ⟨he, ⟨f, by omega, by rw [← hv, lex_tag hh hr ht]⟩, hok, hfew, Nat.zero_le _⟩

/-- A tag that can't be read. -/
theorem LxSt.badTag (h : LxSt s V q tx ts) (h60 : sgnAt s q = 60) (hr : remL (s.data.toList.drop q) = none) (ht : tagL (s.data.toList.drop q) = none) : V = none := by
  obtain ⟨f, hf, hh, hl, hv⟩ := h.step h60
  rw [← hv]
  exact lex_bad3 hh hr ht

/-- What is out is wrong by now. -/
theorem LxSt.badOut (h : LxSt s V q tx ts) (h60 : sgnAt s q = 60) (hr : remL (s.data.toList.drop q) = none) (hb : ∀ t c r, tagL (s.data.toList.drop q) = some (t, c, r) → (∃ x ∈ flushL tx.data.toList ts ++ (if c then [t, ⟨2, t.name, [], ⟨#[]⟩⟩] else [t]), tokB x = false) ∨ 120 < (flushL tx.data.toList ts ++ (if c then [t, ⟨2, t.name, [], ⟨#[]⟩⟩] else [t])).length) : ansF V = none := by
  obtain ⟨f, hf, hh, hl, hv⟩ := h.step h60
  rw [← hv]
  cases ht : tagL (s.data.toList.drop q) with
  | none => rw [lex_bad3 hh hr ht]; rfl
  | some x =>
    obtain ⟨t, c, r⟩ := x
    rw [lex_tag hh hr ht]
    exact ans_bad (hb t c r ht)

/-- The text ahead of a tag is wrong. -/
theorem LxSt.badFlush (h : LxSt s V q tx ts) (h60 : sgnAt s q = 60) (hr : remL (s.data.toList.drop q) = none) (hb : (∃ x ∈ flushL tx.data.toList ts, tokB x = false) ∨ 120 < (flushL tx.data.toList ts).length) : ansF V = none :=
  h.badOut h60 hr (fun t c r _ => by
    rcases hb with ⟨x, hx, h'⟩ | h'
    · exact .inl ⟨x, List.mem_append_left _ hx, h'⟩
    · right
      rw [List.length_append]
      omega)

/-- A closing tag. -/
theorem tag_close {e : Nat} (h60 : sgnAt s q = 60) (h47 : sgnAt s (q + 1) = 47) (he : EndsAt s (q + 2) e) : tagL (s.data.toList.drop q) = some (⟨2, s.extract (q + 2) e, [], ⟨#[]⟩⟩, false, s.data.toList.drop (e + 1)) := by
  obtain ⟨hl, e0⟩ := sgn_lt h60 (by decide)
  obtain ⟨hl1, e1⟩ := sgn_lt h47 (by decide)
  obtain ⟨h1, ⟨he1, he2⟩, h3⟩ := he
  have hst : StopsAt (fun c => c == 62) s q e := ⟨by omega, ⟨he1, by simpa using he2⟩, fun i hi h4 h5 => by
    rcases (show i = q ∨ i = q + 1 ∨ q + 2 ≤ i by omega) with rfl | rfl | h6
    · rw [e0]; rfl
    · rw [e1]; rfl
    · simpa using h3 i hi h6 h5⟩
  have hr := stop_rest same_gt s (e - q) q e rfl hst
  unfold tagL
  rw [drop1, if_pos ((sgn_head s (q + 1) 47 (by decide)).2 h47), hr.1, if_pos ((sgn_head s e 62 (by decide)).2 (by unfold sgnAt; rw [dif_pos he1]; exact he2)), hr.2, List.drop_drop]
  have : ((s.data.toList.drop q).take (e - q)).drop 2 = (s.data.toList.drop (q + 2)).take (e - (q + 2)) := by
    rw [List.drop_take, List.drop_drop]
    congr 1
  rw [this, ← ext_list7, list_bytes]

theorem tag_noClose (h60 : sgnAt s q = 60) (h47 : sgnAt s (q + 1) = 47) (he : EndsNot s (q + 2)) : tagL (s.data.toList.drop q) = none := by
  obtain ⟨hl, e0⟩ := sgn_lt h60 (by decide)
  obtain ⟨hl1, e1⟩ := sgn_lt h47 (by decide)
  have hr := stop_none same_gt s (s.size - q) q rfl (fun i hi h4 => by
    rcases (show i = q ∨ i = q + 1 ∨ q + 2 ≤ i by omega) with rfl | rfl | h6
    · rw [e0]; rfl
    · rw [e1]; rfl
    · simpa using he i hi h6)
  unfold tagL
  rw [drop1, if_pos ((sgn_head s (q + 1) 47 (by decide)).2 h47), hr, if_neg (fun e => by cases e)]

/-- An opening tag: its attrs. -/
theorem tag_openL (h47 : ¬ sgnAt s (q + 1) = 47) : tagL (s.data.toList.drop q) = match atL ((s.data.toList.drop q).length + 1) (restL [32, 47, 62] (s.data.toList.drop (q + 1))) [] with
    | none => none
    | some (ats, r) =>
      if r.head? = some 62 then some (⟨1, bytesOf (tillL [32, 47, 62] (s.data.toList.drop (q + 1))), ats, ⟨#[]⟩⟩, false, r.drop 1)
      else if r.take 2 = [47, 62] then some (⟨1, bytesOf (tillL [32, 47, 62] (s.data.toList.drop (q + 1))), ats, ⟨#[]⟩⟩, true, r.drop 2)
      else none := by
  unfold tagL
  rw [drop1, if_neg (fun h => h47 ((sgn_head s (q + 1) 47 (by decide)).1 h))]
  generalize atL _ _ _ = X
  match X with
  | none => rfl
  | some (_, _) => rfl

/-- A name that begins with a sign at which names end, or with another wrong one, is no name. -/
theorem name_first {c : UInt8} {r : List UInt8} (h : letB c.toNat = false) (h2 : ¬ c.toNat = 58) : nameL (c :: r) = false := by
  cases hn : nameL (c :: r) with
  | false => rfl
  | true =>
    unfold nameL at hn
    split at hn
    · unfold lettersL allL at hn
      rw [Bool.and_eq_true, List.all_cons, h, Bool.false_and] at hn
      exact hn.2.symm
    · rename_i a ha
      rw [Bool.and_eq_true] at hn
      have h1 := hn.1
      unfold preL at h1
      rw [ha] at h1
      simp only at h1
      cases a with
      | zero =>
        unfold colonAt at ha
        rw [List.findIdx?_cons] at ha
        have : (c.toNat == 58) = false := by simpa using h2
        rw [this] at ha
        simp at ha
      | succ a =>
        unfold lettersL allL at h1
        rw [Bool.and_eq_true, List.take_succ_cons, List.all_cons, h, Bool.false_and] at h1
        exact h1.2.symm

theorem nameL_nilF : nameL [] = false := by decide

theorem tok_name {t : Tk} (h1 : t.kind = 1) (h2 : nameL t.name.data.toList = false) : tokB t = false := by
  unfold tokB
  rw [if_pos h1, h2, Bool.false_and]

/-- A tag whose name begins with a sign that no name begins with: none, or a token that is wrong. -/
theorem tag_wrong (h47 : ¬ sgnAt s (q + 1) = 47) (hb : sgnAt s (q + 1) = 0 ∨ nameT (sgnAt s (q + 1)) = true ∨ (letB (sgnAt s (q + 1)) = false ∧ ¬ sgnAt s (q + 1) = 58)) {t : Tk} {c : Bool} {r : List UInt8} (h : tagL (s.data.toList.drop q) = some (t, c, r)) : tokB t = false := by
  rw [tag_openL h47] at h
  have key : nameL (tillL [32, 47, 62] (s.data.toList.drop (q + 1))) = false := by
    by_cases hl : q + 1 < s.size
    · have hsg : sgnAt s (q + 1) = s[q + 1].toNat := by unfold sgnAt; rw [dif_pos hl]
      rw [drop_at s _ hl]
      cases hT : nameT s[q + 1].toNat with
      | true =>
        rw [till_cons_in (by rw [same_name s[q + 1]]; exact hT)]
        exact nameL_nilF
      | false =>
        rw [till_cons_out (by rw [same_name s[q + 1]]; exact hT)]
        rw [hsg, hT] at hb
        rcases hb with h' | h' | h'
        · exact name_first (by rw [h']; decide) (by omega)
        · cases h'
        · exact name_first h'.1 h'.2
    · rw [drop_end s _ (by omega)]
      exact nameL_nilF
  split at h
  · cases h
  · split at h
    · simp only [Option.some.injEq, Prod.mk.injEq] at h
      rw [← h.1]
      exact tok_name rfl key
    · split at h
      · simp only [Option.some.injEq, Prod.mk.injEq] at h
        rw [← h.1]
        exact tok_name rfl key
      · cases h

/-- The name of an opening tag, by its place. -/
theorem op_at {e1 : Nat} (hl : q + 1 < s.size) (hT : nameT s[q + 1].toNat = false) (h : StopsAt nameT s (q + 2) e1) : restL [32, 47, 62] (s.data.toList.drop (q + 1)) = s.data.toList.drop e1 ∧ bytesOf (tillL [32, 47, 62] (s.data.toList.drop (q + 1))) = s.extract (q + 1) e1 ∧ q + 2 ≤ e1 ∧ e1 < s.size := by
  have hst : StopsAt nameT s (q + 1) e1 := ⟨by have := h.1; omega, h.2.1, fun i hi h1 h2 => by
    rcases (show i = q + 1 ∨ q + 2 ≤ i by omega) with rfl | h3
    · exact hT
    · exact h.2.2 i hi h3 h2⟩
  obtain ⟨r1, r2⟩ := stop_rest same_name s (e1 - (q + 1)) (q + 1) e1 rfl hst
  exact ⟨r1, by rw [r2, ← ext_list7, list_bytes], h.1, h.2.1.1⟩

theorem op_fuel {e1 : Nat} (h1 : q + 2 ≤ e1) (h2 : e1 < s.size) : atL ((s.data.toList.drop q).length + 1) (s.data.toList.drop e1) [] = atL (s.size + 1) (s.data.toList.drop e1) [] := by
  have hl : s.data.toList.length = s.size := rfl
  refine atL_fuel _ _ _ _ ?_ ?_
  all_goals (
    rw [List.length_drop, hl]
    try rw [List.length_drop, hl]
    omega)

theorem op_noName (hl : q + 1 < s.size) (hT : nameT s[q + 1].toNat = false) (h : ∀ e, ¬ StopsAt nameT s (q + 2) e) : tagL (s.data.toList.drop q) = none := by
  have h47 : ¬ sgnAt s (q + 1) = 47 := fun e => by
    unfold sgnAt at e
    rw [dif_pos hl] at e
    rw [e] at hT
    exact absurd hT (by decide)
  have hno : ∀ i (hi : i < s.size), q + 2 ≤ i → nameT s[i].toNat = false := by
    intro i
    induction i using Nat.strongRecOn with
    | _ i ih =>
      intro hi h1
      cases hq : nameT s[i].toNat with
      | false => rfl
      | true => exact absurd ⟨h1, ⟨hi, hq⟩, fun j hj h2 h3 => ih j h3 hj h2⟩ (h i)
  have hr := stop_none same_name s (s.size - (q + 1)) (q + 1) rfl (fun i hi h1 => by
    rcases (show i = q + 1 ∨ q + 2 ≤ i by omega) with rfl | h3
    · exact hT
    · exact hno i hi h3)
  rw [tag_openL h47, hr, atL_end (fun e => by cases e)]
  simp

theorem not47 (hl : q + 1 < s.size) (hT : nameT s[q + 1].toNat = false) : ¬ sgnAt s (q + 1) = 47 := fun e => by
  unfold sgnAt at e
  rw [dif_pos hl] at e
  rw [e] at hT
  exact absurd hT (by decide)

theorem op_badAt {e1 : Nat} (hl : q + 1 < s.size) (hT : nameT s[q + 1].toNat = false) (h : StopsAt nameT s (q + 2) e1) (ha : atL (s.size + 1) (s.data.toList.drop e1) [] = none) : tagL (s.data.toList.drop q) = none := by
  obtain ⟨r1, r2, r3, r4⟩ := op_at hl hT h
  rw [tag_openL (not47 hl hT), r1, op_fuel r3 r4, ha]

theorem sgn_take2 {e : Nat} : (s.data.toList.drop e).take 2 = [47, 62] ↔ sgnAt s e = 47 ∧ sgnAt s (e + 1) = 62 := by
  rw [take2_iff]
  constructor
  · rintro ⟨h, h1, h2⟩
    unfold sgnAt
    rw [dif_pos (show e < s.size by omega), dif_pos h, h1, h2]
    exact ⟨rfl, rfl⟩
  · rintro ⟨h1, h2⟩
    obtain ⟨k1, e1⟩ := sgn_lt h1 (by decide)
    obtain ⟨k2, e2⟩ := sgn_lt h2 (by decide)
    exact ⟨k2, UInt8.toNat_inj.1 e1, UInt8.toNat_inj.1 e2⟩

theorem op_odd {e1 e : Nat} {acc : List At} (hl : q + 1 < s.size) (hT : nameT s[q + 1].toNat = false) (h : StopsAt nameT s (q + 2) e1) (ha : atL (s.size + 1) (s.data.toList.drop e1) [] = some (acc, s.data.toList.drop e)) (h1 : ¬ sgnAt s e = 62) (h2 : ¬ (sgnAt s e = 47 ∧ sgnAt s (e + 1) = 62)) : tagL (s.data.toList.drop q) = none := by
  obtain ⟨r1, r2, r3, r4⟩ := op_at hl hT h
  rw [tag_openL (not47 hl hT), r1, op_fuel r3 r4, ha]
  simp only
  rw [if_neg (fun x => h1 ((sgn_head s e 62 (by decide)).1 x)), if_neg (fun x => h2 (sgn_take2.1 x))]

theorem op_ge {e1 e : Nat} {acc : List At} (hc : ¬ sgnAt s e = 0) (h1 : e1 < s.size) (ha : atL (s.size + 1) (s.data.toList.drop e1) [] = some (acc, s.data.toList.drop e)) : e1 ≤ e ∧ e < s.size := by
  have hl : s.data.toList.length = s.size := rfl
  have he : e < s.size := by
    rcases Nat.lt_or_ge e s.size with h' | h'
    · exact h'
    · exact absurd (by unfold sgnAt; rw [dif_neg (by omega)]) hc
  have hs := (atL_suf _ _ _ _ _ ha).length_le
  rw [List.length_drop, List.length_drop, hl] at hs
  exact ⟨by omega, he⟩

theorem op_opens {e1 e : Nat} {acc : List At} (hl : q + 1 < s.size) (hT : nameT s[q + 1].toNat = false) (h : StopsAt nameT s (q + 2) e1) (ha : atL (s.size + 1) (s.data.toList.drop e1) [] = some (acc, s.data.toList.drop e)) (h1 : sgnAt s e = 62) : tagL (s.data.toList.drop q) = some (⟨1, s.extract (q + 1) e1, acc, ⟨#[]⟩⟩, false, s.data.toList.drop (e + 1)) ∧ q + 1 ≤ e + 1 ∧ e + 1 ≤ s.size := by
  obtain ⟨r1, r2, r3, r4⟩ := op_at hl hT h
  obtain ⟨g1, g2⟩ := op_ge (by rw [h1]; decide) r4 ha
  refine ⟨?_, by omega, by omega⟩
  rw [tag_openL (not47 hl hT), r1, op_fuel r3 r4, ha]
  simp only
  rw [if_pos ((sgn_head s e 62 (by decide)).2 h1), r2, List.drop_drop]

theorem op_whole {e1 e : Nat} {acc : List At} (hl : q + 1 < s.size) (hT : nameT s[q + 1].toNat = false) (h : StopsAt nameT s (q + 2) e1) (ha : atL (s.size + 1) (s.data.toList.drop e1) [] = some (acc, s.data.toList.drop e)) (h1 : sgnAt s e = 47) (h2 : sgnAt s (e + 1) = 62) : tagL (s.data.toList.drop q) = some (⟨1, s.extract (q + 1) e1, acc, ⟨#[]⟩⟩, true, s.data.toList.drop (e + 2)) ∧ q + 1 ≤ e + 2 ∧ e + 2 ≤ s.size := by
  obtain ⟨r1, r2, r3, r4⟩ := op_at hl hT h
  obtain ⟨g1, g2⟩ := op_ge (by rw [h1]; decide) r4 ha
  obtain ⟨k2, -⟩ := sgn_lt h2 (by decide)
  refine ⟨?_, by omega, by omega⟩
  rw [tag_openL (not47 hl hT), r1, op_fuel r3 r4, ha]
  simp only
  rw [if_neg (fun x => by have := (sgn_head s e 62 (by decide)).1 x; rw [h1] at this; exact absurd this (by decide)), if_pos (sgn_take2.2 ⟨h1, h2⟩), r2, List.drop_drop]

end

end Go.Proofs.YteninofjeidljaaGreat

namespace Go.Proofs.YteninofjeidljaaGreat

open Go.RowKit

set_option linter.unusedVariables false

set_option linter.unusedSimpArgs false

/-- A tag was read, or nothing is told. -/
def TagAns (B g : Nat) (s : ByteArray) (V : Option (List Tk)) (q : Nat) (w : World) (x : Ending) (w' : World) : Prop :=
  ∃ b, x = .returned (.bool b) ∧ Below g w w' ∧ (b = false → ansF V = none) ∧ (b = true → ∃ e m v es, RdT w' B g s e m ⟨#[]⟩ v es ∧ LxSt s V e ⟨#[]⟩ (es.map (·.t)) ∧ q + 2 < e)

section

variable {B g : Nat} {s : ByteArray} {V : Option (List Tk)} {q : Nat} {tx : ByteArray} {es : List Tn.E} {w w' : World} {x : Ending}

theorem two_more (l : List Tk) (a b : Tk) : l ++ [a, b] = l ++ [a] ++ [b] := by rw [List.append_assoc]; rfl

theorem few_ok {l : List Tk} {t : Tk} {n : Nat} (hl : l.length = n) (h1 : ∀ x ∈ l, tokB x = true) (h : (decide (n + 1 ≤ 120) && tokB t) = true) : (∀ x ∈ l ++ [t], tokB x = true) ∧ (l ++ [t]).length ≤ 120 := by
  rw [Bool.and_eq_true] at h
  refine ⟨fun x hx => ?_, ?_⟩
  · rcases List.mem_append.1 hx with h' | h'
    · exact h1 x h'
    · rw [List.mem_singleton.1 h']
      exact h.2
  · have := of_decide_eq_true h.1
    rw [List.length_append, hl]
    exact this

theorem few_bad {l : List Tk} {t : Tk} {n : Nat} (hl : l.length = n) (h : (decide (n + 1 ≤ 120) && tokB t) = false) : (∃ x ∈ l ++ [t], tokB x = false) ∨ 120 < (l ++ [t]).length := by
  rw [Bool.and_eq_false_iff] at h
  rcases h with h | h
  · right
    have := of_decide_eq_false h
    rw [List.length_append, hl]
    show 120 < n + 1
    omega
  · left
    exact ⟨t, List.mem_append_right _ (List.mem_singleton.2 rfl), h⟩

theorem bad_more {l : List Tk} (r : List Tk) (h : (∃ x ∈ l, tokB x = false) ∨ 120 < l.length) : (∃ x ∈ l ++ r, tokB x = false) ∨ 120 < (l ++ r).length := by
  rcases h with ⟨x, hx, h⟩ | h
  · exact .inl ⟨x, List.mem_append_left _ hx, h⟩
  · right
    rw [List.length_append]
    omega

/-- What opening tells. -/
theorem op_ans (h : LxSt s V q tx (es.map (·.t))) (h60 : sgnAt s q = 60) (h33 : ¬ sgnAt s (q + 1) = 33) (h47 : ¬ sgnAt s (q + 1) = 47) (hl : q + 1 < s.size) (hfl : flushB tx es = true) (hx : OpPost B g s (q + 1) ⟨#[]⟩ (flushE tx es) w x w') : TagAns B g s V q w x w' := by
  have hrem : remL (s.data.toList.drop q) = none := rem_no h33
  obtain ⟨hok, hfew⟩ := flush_good hfl h.ok h.few
  have hfe := flush_is tx es
  rw [hfe] at hok hfew
  have hlen : (flushL tx.data.toList (es.map (·.t))).length = (flushE tx es).length := by rw [← hfe, List.length_map]
  have hsg : sgnAt s (q + 1) = s[q + 1].toNat := by unfold sgnAt; rw [dif_pos hl]
  cases hT : nameT s[q + 1].toNat with
  | true =>
    have hbad : ansF V = none := h.badOut h60 hrem (fun t c r ht => by
      have hb := tag_wrong h47 (.inr (.inl (by rw [hsg]; exact hT))) ht
      left
      refine ⟨t, List.mem_append_right _ ?_, hb⟩
      split
      · exact List.mem_cons_self
      · exact List.mem_singleton.2 rfl)
    have hnm : ∀ e1, q + 2 ≤ e1 → e1 ≤ s.size → ∀ acc, tokB ⟨1, s.extract (q + 1) e1, acc, ⟨#[]⟩⟩ = false := fun e1 h1 h2 acc => by
      refine tok_name rfl ?_
      show nameL (s.extract (q + 1) e1).data.toList = false
      rw [ext_list7, drop_at s _ hl]
      obtain ⟨d, hd⟩ : ∃ d, e1 - (q + 1) = d + 1 := ⟨e1 - (q + 1) - 1, by omega⟩
      rw [hd, List.take_succ_cons]
      have h3 : s[q + 1].toNat = 32 ∨ s[q + 1].toNat = 47 ∨ s[q + 1].toNat = 62 := by
        unfold nameT at hT
        simp at hT
        omega
      refine name_first ?_ (by omega)
      rcases h3 with h3 | h3 | h3 <;> (rw [h3]; decide)
    cases hx with
    | noName _ hb e => exact ⟨false, e, hb, fun _ => hbad, fun h => by cases h⟩
    | badAt _ _ _ hb e => exact ⟨false, e, hb, fun _ => hbad, fun h => by cases h⟩
    | odd _ _ _ _ _ _ _ hb e => exact ⟨false, e, hb, fun _ => hbad, fun h => by cases h⟩
    | opens e1 e acc h1 h2 h3 hx hb hr =>
      rw [hnm e1 h1.1 (Nat.le_of_lt h1.2.1.1), Bool.and_false] at hx
      exact ⟨false, hx, hb, fun _ => hbad, fun h => by cases h⟩
    | whole e1 e acc h1 h2 h3 h4 h5 hx hb hr =>
      rw [hnm e1 h1.1 (Nat.le_of_lt h1.2.1.1), Bool.and_false] at h5
      cases h5
    | wholeBad _ _ _ _ _ _ _ _ hb e => exact ⟨false, e, hb, fun _ => hbad, fun h => by cases h⟩
  | false =>
    cases hx with
    | noName h1 hb e => exact ⟨false, e, hb, fun _ => by rw [h.badTag h60 hrem (op_noName hl hT h1)]; rfl, fun h => by cases h⟩
    | badAt e1 h1 h2 hb e => exact ⟨false, e, hb, fun _ => by rw [h.badTag h60 hrem (op_badAt hl hT h1 h2)]; rfl, fun h => by cases h⟩
    | odd e1 e acc h1 h2 h3 h4 hb he => exact ⟨false, he, hb, fun _ => by rw [h.badTag h60 hrem (op_odd hl hT h1 h2 h3 h4)]; rfl, fun h => by cases h⟩
    | opens e1 e acc h1 h2 h3 hx hb hr =>
      obtain ⟨ht, k1, k2⟩ := op_opens hl hT h1 h2 h3
      obtain ⟨g1, g2⟩ := op_ge (by rw [h3]; decide) h1.2.1.1 h2
      have hq2 : q + 2 < e + 1 := by have := h1.1; omega
      refine ⟨_, hx, hb, fun hf => h.badOut h60 hrem (fun t c r ht' => ?_), fun hf => ?_⟩
      · rw [ht] at ht'
        simp only [Option.some.injEq, Prod.mk.injEq] at ht'
        obtain ⟨rfl, rfl, -⟩ := ht'
        exact few_bad hlen hf
      · obtain ⟨m, v', ta, tc, hr⟩ := hr
        obtain ⟨o1, o2⟩ := few_ok hlen hok hf
        refine ⟨e + 1, m, v', _, hr, ?_, hq2⟩
        rw [List.map_append, hfe]
        exact h.more h60 hrem ht k1 k2 o1 o2
    | whole e1 e acc h1 h2 h3 h4 h5 hx hb hr =>
      obtain ⟨ht, k1, k2⟩ := op_whole hl hT h1 h2 h3 h4
      obtain ⟨g1, g2⟩ := op_ge (by rw [h3]; decide) h1.2.1.1 h2
      have hq2 : q + 2 < e + 2 := by have := h1.1; omega
      obtain ⟨o1, o2⟩ := few_ok hlen hok h5
      have hlen2 : (flushL tx.data.toList (es.map (·.t)) ++ [(⟨1, s.extract (q + 1) e1, acc, ⟨#[]⟩⟩ : Tk)]).length = (flushE tx es).length + 1 := by rw [List.length_append, hlen]; rfl
      refine ⟨_, hx, hb, fun hf => h.badOut h60 hrem (fun t c r ht' => ?_), fun hf => ?_⟩
      · rw [ht] at ht'
        simp only [Option.some.injEq, Prod.mk.injEq] at ht'
        obtain ⟨rfl, rfl, -⟩ := ht'
        rw [if_pos rfl, two_more]
        exact few_bad hlen2 hf
      · obtain ⟨m, v', ta, tc, hr⟩ := hr
        obtain ⟨p1, p2⟩ := few_ok hlen2 o1 hf
        refine ⟨e + 2, m, v', _, hr, ?_, hq2⟩
        rw [List.map_append, List.map_append, hfe]
        have := h.more h60 hrem ht k1 k2 (by rw [if_pos rfl, two_more]; exact p1) (by rw [if_pos rfl, two_more]; exact p2)
        rw [if_pos rfl, two_more] at this
        exact this
    | wholeBad e1 e acc h1 h2 h3 h4 h5 hb he =>
      obtain ⟨ht, k1, k2⟩ := op_whole hl hT h1 h2 h3 h4
      refine ⟨false, he, hb, fun _ => h.badOut h60 hrem (fun t c r ht' => ?_), fun h => by cases h⟩
      rw [ht] at ht'
      simp only [Option.some.injEq, Prod.mk.injEq] at ht'
      obtain ⟨rfl, rfl, -⟩ := ht'
      rw [if_pos rfl, two_more]
      exact bad_more _ (few_bad hlen h5)

/-- What closing tells. -/
theorem cl_ans (h : LxSt s V q tx (es.map (·.t))) (h60 : sgnAt s q = 60) (h47 : sgnAt s (q + 1) = 47) (hfl : flushB tx es = true) (hx : ClPost B g s (q + 2) ⟨#[]⟩ (flushE tx es) w x w') : TagAns B g s V q w x w' := by
  have hrem : remL (s.data.toList.drop q) = none := rem_no (by rw [h47]; decide)
  obtain ⟨hok, hfew⟩ := flush_good hfl h.ok h.few
  have hfe := flush_is tx es
  rw [hfe] at hok hfew
  have hlen : (flushL tx.data.toList (es.map (·.t))).length = (flushE tx es).length := by rw [← hfe, List.length_map]
  obtain ⟨hb, ⟨h1, e⟩ | ⟨e1, h1, hx, v', hr⟩⟩ := hx
  · exact ⟨false, e, hb, fun _ => by rw [h.badTag h60 hrem (tag_noClose h60 h47 h1)]; rfl, fun h => by cases h⟩
  · have ht := tag_close h60 h47 h1
    have k0 := h1.1
    have k2 : e1 + 1 ≤ s.size := h1.2.1.1
    refine ⟨_, hx, hb, fun hf => h.badOut h60 hrem (fun t c r ht' => ?_), fun hf => ?_⟩
    · rw [ht] at ht'
      simp only [Option.some.injEq, Prod.mk.injEq] at ht'
      obtain ⟨rfl, rfl, -⟩ := ht'
      exact few_bad hlen hf
    · obtain ⟨o1, o2⟩ := few_ok hlen hok hf
      refine ⟨e1 + 1, _, v', _, hr, ?_, by omega⟩
      rw [List.map_append, hfe]
      exact h.more h60 hrem ht (by omega) k2 o1 o2

theorem rem_no2 (h : ¬ (sgnAt s (q + 2) = 45 ∧ sgnAt s (q + 3) = 45)) : remL (s.data.toList.drop q) = none := by
  unfold remL
  rw [if_neg]
  intro e
  refine h ?_
  have key : ∀ j, j < 4 → (s.data.toList.drop (q + j)).head? = ([60, 33, 45, 45] : List UInt8)[j]? := fun j hj => by
    rw [← e, List.getElem?_take, if_pos hj, List.getElem?_drop, List.head?_drop]
  exact ⟨(sgn_head s (q + 2) 45 (by decide)).1 (key 2 (by omega)), (sgn_head s (q + 3) 45 (by decide)).1 (key 3 (by omega))⟩

/-- Behind <! no -- stands. -/
theorem rm_ans (h : LxSt s V q tx (es.map (·.t))) (h60 : sgnAt s q = 60) (h33 : sgnAt s (q + 1) = 33) (hno : ¬ (sgnAt s (q + 2) = 45 ∧ sgnAt s (q + 3) = 45)) : ansF V = none :=
  h.badOut h60 (rem_no2 hno) (fun t c r ht => by
    have hb := tag_wrong (by rw [h33]; decide) (.inr (.inr (by rw [h33]; exact ⟨by decide, by decide⟩))) ht
    left
    refine ⟨t, List.mem_append_right _ ?_, hb⟩
    split
    · exact List.mem_cons_self
    · exact List.mem_singleton.2 rfl)

/-- A < at the end. -/
theorem end_ans (h : LxSt s V q tx (es.map (·.t))) (h60 : sgnAt s q = 60) (hl : ¬ q + 1 < s.size) : ansF V = none := by
  have h0 : sgnAt s (q + 1) = 0 := by unfold sgnAt; rw [dif_neg hl]
  exact h.badOut h60 (rem_no (by rw [h0]; decide)) (fun t c r ht => by
    have hb := tag_wrong (by rw [h0]; decide) (.inl h0) ht
    left
    refine ⟨t, List.mem_append_right _ ?_, hb⟩
    split
    · exact List.mem_cons_self
    · exact List.mem_singleton.2 rfl)

theorem unS_some {x : ByteArray} {u : List UInt8} (h : unescL x.data.toList = some u) : unS x = bytesOf u := by unfold unS; rw [h]; rfl

theorem unS_size (x : ByteArray) : (unS x).size ≤ x.size := by
  cases h : unescL x.data.toList with
  | none =>
    have : unS x = ⟨#[]⟩ := by unfold unS; rw [h]; rfl
    rw [this]
    exact Nat.zero_le _
  | some u =>
    rw [unS_some h, bytesOf_size]
    exact unesc_le h

end

end Go.Proofs.YteninofjeidljaaGreat
