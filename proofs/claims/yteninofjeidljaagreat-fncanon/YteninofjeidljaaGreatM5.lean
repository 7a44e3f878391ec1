/- Plain mathematics of unescaping: one sign read at the head of a text, and a text read sign by sign. Plain mathematics of what a text's tokens are, along the specification. Plain mathematics of reading: what is left is shorter; the steps of the lexer. Contracts of the methods by which a sign is written: reference, itself, inText, inQuotes. -/
import Derived.Test.YteninofjeidljaaGreatM4
import Derived.Test.YteninofjeidljaaGreatRows
import Derived.Test.YteninofjeidljaaGreatM1
import Derived.WalkKit
namespace Go.Proofs.YteninofjeidljaaGreat

open Go.RowKit

def amp : List UInt8 := [38, 97, 109, 112, 59]

def lt : List UInt8 := [38, 108, 116, 59]

def gt : List UInt8 := [38, 103, 116, 59]

def quot : List UInt8 := [38, 113, 117, 111, 116, 59]

/-- The sign that begins a text, and how many bytes write it. -/
def readL (l : List UInt8) : Option (UInt8 × Nat) :=
  match l with
  | [] => none
  | c :: _ =>
    if c.toNat = 38 then
      (if amp.isPrefixOf l then some (38, 5) else if lt.isPrefixOf l then some (60, 4) else if gt.isPrefixOf l then some (62, 4) else if quot.isPrefixOf l then some (34, 6) else none)
    else some (c, 1)

def runU : Nat → List UInt8 → List UInt8 → Option (List UInt8)
  | 0, _, acc => some acc
  | _ + 1, [], acc => some acc
  | f + 1, c :: r, acc => match readL (c :: r) with
    | none => none
    | some (x, k) => runU f ((c :: r).drop k) (acc ++ [x])

def unescL (l : List UInt8) : Option (List UInt8) := if plainL l then runU l.length l [] else none

def outU (r : Option (List UInt8)) : List UInt8 := r.getD []

theorem runU_end (f : Nat) (acc : List UInt8) : runU f [] acc = some acc := by cases f <;> rfl

theorem runU_stop (f : Nat) (l acc : List UInt8) (hl : l.length ≤ f) (h0 : l ≠ []) (h : readL l = none) : runU f l acc = none := by
  cases l with
  | nil => exact absurd rfl h0
  | cons c r =>
    cases f with
    | zero => simp at hl
    | succ f => rw [runU, h]

theorem runU_step (f : Nat) (l acc : List UInt8) (x : UInt8) (k : Nat) (hl : l.length ≤ f + 1) (h0 : l ≠ []) (h : readL l = some (x, k)) : runU (f + 1) l acc = runU f (l.drop k) (acc ++ [x]) := by
  cases l with
  | nil => exact absurd rfl h0
  | cons c r => rw [runU, h]

theorem readL_plain (c : UInt8) (r : List UInt8) (h : ¬ c.toNat = 38) : readL (c :: r) = some (c, 1) := by
  rw [readL, if_neg h]

theorem readL_amp (l : List UInt8) (h : amp.isPrefixOf l = true) : readL l = some (38, 5) := by
  cases l with
  | nil => simp [amp] at h
  | cons c r =>
    have hc : c.toNat = 38 := by simp [amp] at h; rw [← h.1]; rfl
    rw [readL, if_pos hc, if_pos h]

theorem readL_lt (l : List UInt8) (h0 : amp.isPrefixOf l = false) (h : lt.isPrefixOf l = true) : readL l = some (60, 4) := by
  cases l with
  | nil => simp [lt] at h
  | cons c r =>
    have hc : c.toNat = 38 := by simp [lt] at h; rw [← h.1]; rfl
    rw [readL, if_pos hc, if_neg (by simp [h0]), if_pos h]

theorem readL_gt (l : List UInt8) (h0 : amp.isPrefixOf l = false) (h1 : lt.isPrefixOf l = false) (h : gt.isPrefixOf l = true) : readL l = some (62, 4) := by
  cases l with
  | nil => simp [gt] at h
  | cons c r =>
    have hc : c.toNat = 38 := by simp [gt] at h; rw [← h.1]; rfl
    rw [readL, if_pos hc, if_neg (by simp [h0]), if_neg (by simp [h1]), if_pos h]

theorem readL_quot (l : List UInt8) (h0 : amp.isPrefixOf l = false) (h1 : lt.isPrefixOf l = false) (h2 : gt.isPrefixOf l = false) (h : quot.isPrefixOf l = true) : readL l = some (34, 6) := by
  cases l with
  | nil => simp [quot] at h
  | cons c r =>
    have hc : c.toNat = 38 := by simp [quot] at h; rw [← h.1]; rfl
    rw [readL, if_pos hc, if_neg (by simp [h0]), if_neg (by simp [h1]), if_neg (by simp [h2]), if_pos h]

theorem readL_none (c : UInt8) (r : List UInt8) (hc : c.toNat = 38) (h0 : amp.isPrefixOf (c :: r) = false) (h1 : lt.isPrefixOf (c :: r) = false) (h2 : gt.isPrefixOf (c :: r) = false) (h3 : quot.isPrefixOf (c :: r) = false) : readL (c :: r) = none := by
  rw [readL, if_pos hc, if_neg (by simp [h0]), if_neg (by simp [h1]), if_neg (by simp [h2]), if_neg (by simp [h3])]

theorem isPrefixOf_le {a l : List UInt8} (h : a.isPrefixOf l = true) : a.length ≤ l.length := (List.isPrefixOf_iff_prefix.1 h).length_le

/-- What is read is one byte at least, and lies in the text. -/
theorem readL_le (l : List UInt8) (x : UInt8) (k : Nat) (h : readL l = some (x, k)) : 1 ≤ k ∧ k ≤ l.length := by
  cases l with
  | nil => simp [readL] at h
  | cons c r =>
    rw [readL] at h
    split at h
    · split at h
      · rename_i hp; have := isPrefixOf_le hp; simp at h; obtain ⟨_, rfl⟩ := h; simp [amp] at this; simp; omega
      · split at h
        · rename_i hp; have := isPrefixOf_le hp; simp at h; obtain ⟨_, rfl⟩ := h; simp [lt] at this; simp; omega
        · split at h
          · rename_i hp; have := isPrefixOf_le hp; simp at h; obtain ⟨_, rfl⟩ := h; simp [gt] at this; simp; omega
          · split at h
            · rename_i hp; have := isPrefixOf_le hp; simp at h; obtain ⟨_, rfl⟩ := h; simp [quot] at this; simp; omega
            · simp at h
    · simp at h; obtain ⟨_, rfl⟩ := h; simp

end Go.Proofs.YteninofjeidljaaGreat

namespace Go.Proofs.YteninofjeidljaaGreat

open Go.RowKit

set_option linter.unusedVariables false

/-- What stands ahead of the first of these signs. -/
def tillL (g : List UInt8) : List UInt8 → List UInt8
  | [] => []
  | c :: r => if g.contains c then [] else c :: tillL g r

/-- What stands from the first of these signs on. -/
def restL (g : List UInt8) : List UInt8 → List UInt8
  | [] => []
  | c :: r => if g.contains c then c :: r else restL g r

theorem till_rest (g l : List UInt8) : tillL g l ++ restL g l = l := by
  induction l with
  | nil => rfl
  | cons c r ih =>
    unfold tillL restL
    split
    · rfl
    · rw [List.cons_append, ih]

theorem rest_drop (g l : List UInt8) : restL g l = l.drop (tillL g l).length := by
  have h := till_rest g l
  have e : l.drop (tillL g l).length = (tillL g l ++ restL g l).drop (tillL g l).length := by rw [h]
  rw [e, List.drop_left]

theorem till_take (g l : List UInt8) : tillL g l = l.take (tillL g l).length := by
  have h := till_rest g l
  have e : l.take (tillL g l).length = (tillL g l ++ restL g l).take (tillL g l).length := by rw [h]
  rw [e, List.take_left]

theorem till_le (g l : List UInt8) : (tillL g l).length ≤ l.length := by
  have h := congrArg List.length (till_rest g l)
  rw [List.length_append] at h
  omega

theorem till_cons_in {g : List UInt8} {c : UInt8} (h : g.contains c = true) (r : List UInt8) : tillL g (c :: r) = [] := by unfold tillL; rw [if_pos h]

theorem till_cons_out {g : List UInt8} {c : UInt8} (h : g.contains c = false) (r : List UInt8) : tillL g (c :: r) = c :: tillL g r := by rw [tillL, if_neg (by rw [h]; exact Bool.false_ne_true)]

theorem rest_cons_out {g : List UInt8} {c : UInt8} (h : g.contains c = false) (r : List UInt8) : restL g (c :: r) = restL g r := by rw [restL, if_neg (by rw [h]; exact Bool.false_ne_true)]

/-- Behind a remark, whose first four signs are passed. -/
def scanR : List UInt8 → Option (List UInt8)
  | a :: b :: c :: r => if a = 45 ∧ b = 45 then (if c = 62 then some r else none) else scanR (b :: c :: r)
  | _ => none

def remL (l : List UInt8) : Option (List UInt8) := if l.take 4 = [60, 33, 45, 45] then scanR (l.drop 4) else none

def bytesOf (l : List UInt8) : ByteArray := ⟨l.toArray⟩

/-- Attrs, each behind a blank. -/
def atL : Nat → List UInt8 → List At → Option (List At × List UInt8)
  | 0, _, _ => none
  | f + 1, l, acc =>
    if l.head? = some 32 then
      if (restL [61] l).take 2 = [61, 34] then
        if (restL [34, 60] ((restL [61] l).drop 2)).head? = some 34 then
          match unescL (tillL [34, 60] ((restL [61] l).drop 2)) with
          | some u => atL f ((restL [34, 60] ((restL [61] l).drop 2)).drop 1) (acc ++ [⟨bytesOf ((tillL [61] l).drop 1), bytesOf u⟩])
          | none => none
        else none
      else none
    else some (acc, l)

/-- A tag. -/
def tagL (l : List UInt8) : Option (Tk × Bool × List UInt8) :=
  if (l.drop 1).head? = some 47 then
    if (restL [62] l).head? = some 62 then some (⟨2, bytesOf ((tillL [62] l).drop 2), [], ⟨#[]⟩⟩, false, (restL [62] l).drop 1) else none
  else
    match atL (l.length + 1) (restL [32, 47, 62] (l.drop 1)) [] with
    | none => none
    | some (ats, q) =>
      if q.head? = some 62 then some (⟨1, bytesOf (tillL [32, 47, 62] (l.drop 1)), ats, ⟨#[]⟩⟩, false, q.drop 1)
      else if q.take 2 = [47, 62] then some (⟨1, bytesOf (tillL [32, 47, 62] (l.drop 1)), ats, ⟨#[]⟩⟩, true, q.drop 2)
      else none

def flushL (text : List UInt8) (out : List Tk) : List Tk := if text = [] then out else out ++ [⟨3, ⟨#[]⟩, [], bytesOf text⟩]

/-- The tokens of what is left, behind a text and tokens that were read. -/
def lexL : Nat → List UInt8 → List UInt8 → List Tk → Option (List Tk)
  | 0, _, _, _ => none
  | f + 1, l, text, out =>
    if ¬ l = [] ∧ ¬ l.head? = some 60 then
      match unescL (tillL [60, 62] l) with
      | none => none
      | some v => if (restL [60, 62] l).head? = some 62 then none else lexL f (restL [60, 62] l) (text ++ v) out
    else
      match remL l with
      | some r => lexL f r text out
      | none =>
        if l = [] then some (flushL text out)
        else
          match tagL l with
          | none => none
          | some (t, c, r) => lexL f r [] (flushL text out ++ (if c then [t, ⟨2, t.name, [], ⟨#[]⟩⟩] else [t]))

/-- What Tokens answers. -/
noncomputable def toksF (l : List UInt8) : Option (List Tk) :=
  if l.length ≤ 4000 ∧ plainL l = true then
    match lexL (l.length + 1) l [] [] with
    | none => none
    | some out => if (∀ t ∈ out, tokB t = true) ∧ out.length ≤ 120 then some out else none
  else none

end Go.Proofs.YteninofjeidljaaGreat

namespace Go.Proofs.YteninofjeidljaaGreat

open Go.RowKit

set_option linter.unusedVariables false

theorem rest_suf (g l : List UInt8) : restL g l <:+ l := by rw [rest_drop]; exact List.drop_suffix _ _

theorem scanR_suf : ∀ (l r : List UInt8), scanR l = some r → r <:+ l ∧ r.length < l.length
  | [], r, h => by simp [scanR] at h
  | [a], r, h => by simp [scanR] at h
  | [a, b], r, h => by simp [scanR] at h
  | a :: b :: c :: q, r, h => by
    rw [scanR] at h
    split at h
    · split at h
      · simp only [Option.some.injEq] at h
        subst h
        exact ⟨⟨[a, b, c], rfl⟩, by simp; omega⟩
      · cases h
    · have ⟨h1, h2⟩ := scanR_suf (b :: c :: q) r h
      exact ⟨h1.trans ⟨[a], rfl⟩, by simp at h2 ⊢; omega⟩

theorem rem_suf {l r : List UInt8} (h : remL l = some r) : r <:+ l ∧ r.length < l.length := by
  unfold remL at h
  split at h
  · have ⟨h1, h2⟩ := scanR_suf _ _ h
    refine ⟨h1.trans (List.drop_suffix _ _), ?_⟩
    rw [List.length_drop] at h2
    omega
  · cases h

theorem atL_suf : ∀ (f : Nat) (l : List UInt8) (acc ats : List At) (q : List UInt8), atL f l acc = some (ats, q) → q <:+ l := by
  intro f
  induction f with
  | zero => intro l acc ats q h; cases h
  | succ f ih =>
    intro l acc ats q h
    rw [atL] at h
    split at h
    · split at h
      · split at h
        · split at h
          · exact (ih _ _ _ _ h).trans ((List.drop_suffix _ _).trans ((rest_suf _ _).trans ((List.drop_suffix _ _).trans (rest_suf _ _))))
          · cases h
        · cases h
      · cases h
    · simp only [Option.some.injEq, Prod.mk.injEq] at h
      rw [h.2]
      exact List.suffix_refl _

theorem head_pos {q : List UInt8} {c : UInt8} (h : q.head? = some c) : 0 < q.length := by
  cases q with
  | nil => cases h
  | cons => simp

theorem tag_suf {l r : List UInt8} {t : Tk} {c : Bool} (h : tagL l = some (t, c, r)) : r <:+ l ∧ r.length < l.length := by
  have key : ∀ (q : List UInt8) (n : Nat), q <:+ l → 0 < q.length → 0 < n → q.drop n <:+ l ∧ (q.drop n).length < l.length := by
    intro q n hq hp hn
    refine ⟨(List.drop_suffix _ _).trans hq, ?_⟩
    have := hq.length_le
    rw [List.length_drop]
    omega
  unfold tagL at h
  split at h
  · split at h
    · rename_i h6
      simp only [Option.some.injEq, Prod.mk.injEq] at h
      rw [← h.2.2]
      exact key _ 1 (rest_suf _ _) (head_pos h6) (by omega)
    · cases h
  · split at h
    · cases h
    · rename_i ats q hq
      have hs : q <:+ l := (atL_suf _ _ _ _ _ hq).trans ((rest_suf _ _).trans (List.drop_suffix _ _))
      split at h
      · rename_i h6
        simp only [Option.some.injEq, Prod.mk.injEq] at h
        rw [← h.2.2]
        exact key _ 1 hs (head_pos h6) (by omega)
      · split at h
        · rename_i h6
          simp only [Option.some.injEq, Prod.mk.injEq] at h
          rw [← h.2.2]
          refine key _ 2 hs ?_ (by omega)
          cases q with
          | nil => simp at h6
          | cons => simp
        · cases h

theorem suf_pos {s : ByteArray} {p : Nat} {r : List UInt8} (hp : p ≤ s.size) (h : r <:+ s.data.toList.drop p) (hl : r.length < (s.data.toList.drop p).length) :
    r = s.data.toList.drop (s.size - r.length) ∧ p < s.size - r.length := by
  have hlen : s.data.toList.length = s.size := rfl
  rw [List.length_drop, hlen] at hl
  have h' := List.suffix_iff_eq_drop.1 (h.trans (List.drop_suffix _ _))
  rw [hlen] at h'
  exact ⟨h', by omega⟩

theorem lex_text {f : Nat} {l text v : List UInt8} {out : List Tk} (h0 : ¬ l = []) (h1 : ¬ l.head? = some 60) (h2 : unescL (tillL [60, 62] l) = some v) (h3 : ¬ (restL [60, 62] l).head? = some 62) :
    lexL (f + 1) l text out = lexL f (restL [60, 62] l) (text ++ v) out := by
  rw [lexL, if_pos ⟨h0, h1⟩, h2]
  simp only [if_neg h3]

theorem lex_bad1 {f : Nat} {l text : List UInt8} {out : List Tk} (h0 : ¬ l = []) (h1 : ¬ l.head? = some 60) (h2 : unescL (tillL [60, 62] l) = none) : lexL (f + 1) l text out = none := by
  rw [lexL, if_pos ⟨h0, h1⟩, h2]

theorem lex_bad2 {f : Nat} {l text : List UInt8} {out : List Tk} (h0 : ¬ l = []) (h1 : ¬ l.head? = some 60) (h3 : (restL [60, 62] l).head? = some 62) : lexL (f + 1) l text out = none := by
  rw [lexL, if_pos ⟨h0, h1⟩]
  split
  · rfl
  · rw [if_pos h3]

theorem lex_rem {f : Nat} {l text r : List UInt8} {out : List Tk} (h1 : l.head? = some 60) (h2 : remL l = some r) : lexL (f + 1) l text out = lexL f r text out := by
  rw [lexL, if_neg (fun h => h.2 h1), h2]

theorem lex_end {f : Nat} {text : List UInt8} {out : List Tk} : lexL (f + 1) [] text out = some (flushL text out) := by
  rw [lexL, if_neg (fun h => h.1 rfl), show remL [] = none from rfl]
  rfl

theorem lex_bad3 {f : Nat} {l text : List UInt8} {out : List Tk} (h1 : l.head? = some 60) (h2 : remL l = none) (h3 : tagL l = none) : lexL (f + 1) l text out = none := by
  have h0 : ¬ l = [] := fun e => by rw [e] at h1; cases h1
  rw [lexL, if_neg (fun h => h.2 h1), h2]
  simp only [if_neg h0, h3]

theorem lex_tag {f : Nat} {l text r : List UInt8} {out : List Tk} {t : Tk} {c : Bool} (h1 : l.head? = some 60) (h2 : remL l = none) (h3 : tagL l = some (t, c, r)) :
    lexL (f + 1) l text out = lexL f r [] (flushL text out ++ (if c then [t, ⟨2, t.name, [], ⟨#[]⟩⟩] else [t])) := by
  have h0 : ¬ l = [] := fun e => by rw [e] at h1; cases h1
  rw [lexL, if_neg (fun h => h.2 h1), h2]
  simp only [if_neg h0, h3]

end Go.Proofs.YteninofjeidljaaGreat

namespace Go.Proofs.YteninofjeidljaaGreat

open Go.RowKit

theorem c__impl_sign__reference_amp (b : UInt8) (w : World) (h0 : (b.toNat : Int) ≤ 38) (h1 : (38 : Int) ≤ b.toNat) :
    Calls Tryz.prog 164 #[.int .u8 b.toNat] w fun e w' => e = .returned (.string ⟨#[38, 97, 109, 112, 59]⟩) ∧ w' = w := by
  go_enter Tryz.func164, Tryz.ntmps164
  go_wp2
  go_ret
  exact ⟨rfl, rfl⟩

theorem c__impl_sign__reference_lt (b : UInt8) (w : World) (h0 : (b.toNat : Int) ≤ 60) (h1 : (60 : Int) ≤ b.toNat) :
    Calls Tryz.prog 164 #[.int .u8 b.toNat] w fun e w' => e = .returned (.string ⟨#[38, 108, 116, 59]⟩) ∧ w' = w := by
  go_enter Tryz.func164, Tryz.ntmps164
  go_wp2
  go_ret
  exact ⟨rfl, rfl⟩

theorem c__impl_sign__reference_gt (b : UInt8) (w : World) (h0 : (b.toNat : Int) ≤ 62) (h1 : (62 : Int) ≤ b.toNat) :
    Calls Tryz.prog 164 #[.int .u8 b.toNat] w fun e w' => e = .returned (.string ⟨#[38, 103, 116, 59]⟩) ∧ w' = w := by
  go_enter Tryz.func164, Tryz.ntmps164
  go_wp2
  go_ret
  exact ⟨rfl, rfl⟩

theorem c__impl_sign__reference_quot (b : UInt8) (w : World) (h0 : (b.toNat : Int) ≤ 34) (h1 : (34 : Int) ≤ b.toNat) :
    Calls Tryz.prog 164 #[.int .u8 b.toNat] w fun e w' => e = .returned (.string ⟨#[38, 113, 117, 111, 116, 59]⟩) ∧ w' = w := by
  go_enter Tryz.func164, Tryz.ntmps164
  go_wp2
  go_ret
  exact ⟨rfl, rfl⟩

theorem c__impl_sign__reference_no (b : UInt8) (w : World) (h0 : ¬ (b.toNat : Int) = 38) (h1 : ¬ (b.toNat : Int) = 60) (h2 : ¬ (b.toNat : Int) = 62) (h3 : ¬ (b.toNat : Int) = 34) :
    Calls Tryz.prog 164 #[.int .u8 b.toNat] w fun e w' => e = .returned (.string ⟨#[]⟩) ∧ w' = w := by
  go_enter Tryz.func164, Tryz.ntmps164
  go_wp2
  go_ret
  exact ⟨rfl, rfl⟩

theorem c__impl_sign__itself (b : UInt8) (w : World) :
    Calls Tryz.prog 132 #[.int .u8 b.toNat] w fun e w' => e = .returned (.string ⟨#[b]⟩) ∧ Below w.heap.size w w' := by
  have hown : (w.alloc (.cells #[.int .u8 b.toNat] 5)).ownsRow 0 5 1 (.slice (some ⟨w.heap.size, 0, none⟩) [b].length 1) [b].length (Lib.byteCells [b]) :=
    ⟨rfl, .inr ⟨w.heap.size, 1, #[.int .u8 b.toNat], rfl, Nat.zero_le _, heap_alloc_new w _, Nat.le_refl _, by decide, rfl, rfl⟩⟩
  have hrun := run_str_own (P := Tryz.prog) (src := 22) (dst := 9) Tryz.underlying22 Tryz.underlying5 Tryz.underlying9 hown
  have hr : (convert 22 9 (.slice (some ⟨w.heap.size, 0, none⟩) 1 1)).run Tryz.prog (w.alloc (.cells #[.int .u8 b.toNat] 5)) = .ok (.string ⟨#[b]⟩) (w.alloc (.cells #[.int .u8 b.toNat] 5)) := hrun
  clear hown hrun
  go_enter Tryz.func132, Tryz.ntmps132
  go_wp2
  go_ret
  exact ⟨rfl, (Below.refl _ _).alloc (Nat.le_refl _) _⟩

theorem c__impl_sign__itself_34 (w : World) : Calls Tryz.prog 132 #[.int .u8 34] w fun e w' => e = .returned (.string ⟨#[34]⟩) ∧ Below w.heap.size w w' := c__impl_sign__itself 34 w

theorem c__impl_sign__itself_62 (w : World) : Calls Tryz.prog 132 #[.int .u8 62] w fun e w' => e = .returned (.string ⟨#[62]⟩) ∧ Below w.heap.size w w' := c__impl_sign__itself 62 w

theorem c__impl_sign__inText (b : UInt8) (w : World) :
    Calls Tryz.prog 133 #[.int .u8 b.toNat] w fun e w' => e = .returned (.string ⟨(escB false b).toArray⟩) ∧ Below w.heap.size w w' := by
  have cases : (b.toNat : Int) = 38 ∨ (b.toNat : Int) = 60 ∨ (b.toNat : Int) = 62 ∨ (b.toNat : Int) = 34 ∨ (¬ (b.toNat : Int) = 38 ∧ ¬ (b.toNat : Int) = 60 ∧ ¬ (b.toNat : Int) = 62 ∧ ¬ (b.toNat : Int) = 34) := by omega
  rcases cases with h | h | h | h | ⟨h0, h1, h2, h3⟩
  · have e : escB false b = [38, 97, 109, 112, 59] := by unfold escB; rw [if_pos (by omega)]
    have g0 : (b.toNat : Int) ≤ 38 := by omega
    have g1 : (38 : Int) ≤ b.toNat := by omega
    rw [e]; clear e h
    go_enter Tryz.func133, Tryz.ntmps133
    go_wp2_with (go_at_call 164; refine (c__impl_sign__reference_amp b _ g0 g1).mono ?_; rintro e w' ⟨rfl, rfl⟩)
    go_ret
    exact ⟨rfl, Below.refl _ _⟩
  · have e : escB false b = [38, 108, 116, 59] := by unfold escB; rw [if_neg (by omega), if_pos (by omega)]
    have g0 : (b.toNat : Int) ≤ 60 := by omega
    have g1 : (60 : Int) ≤ b.toNat := by omega
    rw [e]; clear e h
    go_enter Tryz.func133, Tryz.ntmps133
    go_wp2_with (go_at_call 164; refine (c__impl_sign__reference_lt b _ g0 g1).mono ?_; rintro e w' ⟨rfl, rfl⟩)
    go_ret
    exact ⟨rfl, Below.refl _ _⟩
  · have e : escB false b = [38, 103, 116, 59] := by unfold escB; rw [if_neg (by omega), if_neg (by omega), if_pos (by omega)]; rfl
    have g0 : (b.toNat : Int) ≤ 62 := by omega
    have g1 : (62 : Int) ≤ b.toNat := by omega
    rw [e]; clear e h
    go_enter Tryz.func133, Tryz.ntmps133
    go_wp2_with (go_at_call 164; refine (c__impl_sign__reference_gt b _ g0 g1).mono ?_; rintro e w' ⟨rfl, rfl⟩)
    go_ret
    exact ⟨rfl, Below.refl _ _⟩
  · have e : escB false b = [b] := by unfold escB; rw [if_neg (by omega), if_neg (by omega), if_neg (by omega), if_pos (by omega)]; rfl
    rw [e]; clear e
    obtain rfl : b = 34 := UInt8.toNat_inj.1 (show b.toNat = 34 by omega)
    clear h
    go_enter Tryz.func133, Tryz.ntmps133
    go_wp2_with (go_at_call 132; refine (c__impl_sign__itself_34 _).mono ?_; rintro e w' ⟨rfl, hb⟩)
    go_ret
    exact ⟨rfl, hb⟩
  · have e : escB false b = [b] := by unfold escB; rw [if_neg (by omega), if_neg (by omega), if_neg (by omega), if_neg (by omega)]
    rw [e]; clear e
    go_enter Tryz.func133, Tryz.ntmps133
    go_wp2_with (first | (go_at_call 164; refine (c__impl_sign__reference_no b _ h0 h1 h2 h3).mono ?_; rintro e w' ⟨rfl, rfl⟩) | (go_at_call 132; refine (c__impl_sign__itself b _).mono ?_; rintro e w' ⟨rfl, hb⟩))
    go_ret
    exact ⟨rfl, hb⟩

theorem c__impl_sign__inQuotes (b : UInt8) (w : World) :
    Calls Tryz.prog 134 #[.int .u8 b.toNat] w fun e w' => e = .returned (.string ⟨(escB true b).toArray⟩) ∧ Below w.heap.size w w' := by
  have cases : (b.toNat : Int) = 38 ∨ (b.toNat : Int) = 60 ∨ (b.toNat : Int) = 62 ∨ (b.toNat : Int) = 34 ∨ (¬ (b.toNat : Int) = 38 ∧ ¬ (b.toNat : Int) = 60 ∧ ¬ (b.toNat : Int) = 62 ∧ ¬ (b.toNat : Int) = 34) := by omega
  rcases cases with h | h | h | h | ⟨h0, h1, h2, h3⟩
  · have e : escB true b = [38, 97, 109, 112, 59] := by unfold escB; rw [if_pos (by omega)]
    have g0 : (b.toNat : Int) ≤ 38 := by omega
    have g1 : (38 : Int) ≤ b.toNat := by omega
    rw [e]; clear e h
    go_enter Tryz.func134, Tryz.ntmps134
    go_wp2_with (go_at_call 164; refine (c__impl_sign__reference_amp b _ g0 g1).mono ?_; rintro e w' ⟨rfl, rfl⟩)
    go_ret
    exact ⟨rfl, Below.refl _ _⟩
  · have e : escB true b = [38, 108, 116, 59] := by unfold escB; rw [if_neg (by omega), if_pos (by omega)]
    have g0 : (b.toNat : Int) ≤ 60 := by omega
    have g1 : (60 : Int) ≤ b.toNat := by omega
    rw [e]; clear e h
    go_enter Tryz.func134, Tryz.ntmps134
    go_wp2_with (go_at_call 164; refine (c__impl_sign__reference_lt b _ g0 g1).mono ?_; rintro e w' ⟨rfl, rfl⟩)
    go_ret
    exact ⟨rfl, Below.refl _ _⟩
  · have e : escB true b = [b] := by unfold escB; rw [if_neg (by omega), if_neg (by omega), if_pos (by omega)]; rfl
    rw [e]; clear e
    obtain rfl : b = 62 := UInt8.toNat_inj.1 (show b.toNat = 62 by omega)
    clear h
    go_enter Tryz.func134, Tryz.ntmps134
    go_wp2_with (go_at_call 132; refine (c__impl_sign__itself_62 _).mono ?_; rintro e w' ⟨rfl, hb⟩)
    go_ret
    exact ⟨rfl, hb⟩
  · have e : escB true b = [38, 113, 117, 111, 116, 59] := by unfold escB; rw [if_neg (by omega), if_neg (by omega), if_neg (by omega), if_pos (by omega)]; rfl
    have g0 : (b.toNat : Int) ≤ 34 := by omega
    have g1 : (34 : Int) ≤ b.toNat := by omega
    rw [e]; clear e h
    go_enter Tryz.func134, Tryz.ntmps134
    go_wp2_with (go_at_call 164; refine (c__impl_sign__reference_quot b _ g0 g1).mono ?_; rintro e w' ⟨rfl, rfl⟩)
    go_ret
    exact ⟨rfl, Below.refl _ _⟩
  · have e : escB true b = [b] := by unfold escB; rw [if_neg (by omega), if_neg (by omega), if_neg (by omega), if_neg (by omega)]
    rw [e]; clear e
    go_enter Tryz.func134, Tryz.ntmps134
    go_wp2_with (first | (go_at_call 164; refine (c__impl_sign__reference_no b _ h0 h1 h2 h3).mono ?_; rintro e w' ⟨rfl, rfl⟩) | (go_at_call 132; refine (c__impl_sign__itself b _).mono ?_; rintro e w' ⟨rfl, hb⟩))
    go_ret
    exact ⟨rfl, hb⟩

end Go.Proofs.YteninofjeidljaaGreat
