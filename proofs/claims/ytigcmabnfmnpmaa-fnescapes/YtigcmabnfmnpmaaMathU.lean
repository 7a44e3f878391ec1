/- Plain mathematics of unescaping: one sign read at the head of a text, and a text read sign by sign. -/
import Derived.Test.YtigcmabnfmnpmaaMath
import Derived.WalkKit
namespace Go.Proofs.Ytigcmabnfmnpmaa
open Go.RowKit

def amp : List UInt8 := [38, 97, 109, 112, 59]
def lt : List UInt8 := [38, 108, 116, 59]
def gt : List UInt8 := [38, 103, 116, 59]
def quot : List UInt8 := [38, 113, 117, 111, 116, 59]

/-- The sign that begins a text, and how many bytes write it. -/
def readL (l : List UInt8) : Option (UInt8 × Nat) :=
  match l with
  | [] => none
  | c :: _ =>
    if c.toNat = 38 then
      (if amp.isPrefixOf l then some (38, 5) else if lt.isPrefixOf l then some (60, 4) else if gt.isPrefixOf l then some (62, 4) else if quot.isPrefixOf l then some (34, 6) else none)
    else some (c, 1)

def runU : Nat → List UInt8 → List UInt8 → Option (List UInt8)
  | 0, _, acc => some acc
  | _ + 1, [], acc => some acc
  | f + 1, c :: r, acc => match readL (c :: r) with
    | none => none
    | some (x, k) => runU f ((c :: r).drop k) (acc ++ [x])

def unescL (l : List UInt8) : Option (List UInt8) := if plainL l then runU l.length l [] else none

def outU (r : Option (List UInt8)) : List UInt8 := r.getD []

theorem runU_end (f : Nat) (acc : List UInt8) : runU f [] acc = some acc := by cases f <;> rfl

theorem runU_stop (f : Nat) (l acc : List UInt8) (hl : l.length ≤ f) (h0 : l ≠ []) (h : readL l = none) : runU f l acc = none := by
  cases l with
  | nil => exact absurd rfl h0
  | cons c r =>
    cases f with
    | zero => simp at hl
    | succ f => rw [runU, h]

theorem runU_step (f : Nat) (l acc : List UInt8) (x : UInt8) (k : Nat) (hl : l.length ≤ f + 1) (h0 : l ≠ []) (h : readL l = some (x, k)) : runU (f + 1) l acc = runU f (l.drop k) (acc ++ [x]) := by
  cases l with
  | nil => exact absurd rfl h0
  | cons c r => rw [runU, h]

theorem readL_plain (c : UInt8) (r : List UInt8) (h : ¬ c.toNat = 38) : readL (c :: r) = some (c, 1) := by
  rw [readL, if_neg h]

theorem readL_amp (l : List UInt8) (h : amp.isPrefixOf l = true) : readL l = some (38, 5) := by
  cases l with
  | nil => simp [amp] at h
  | cons c r =>
    have hc : c.toNat = 38 := by simp [amp] at h; rw [← h.1]; rfl
    rw [readL, if_pos hc, if_pos h]

theorem readL_lt (l : List UInt8) (h0 : amp.isPrefixOf l = false) (h : lt.isPrefixOf l = true) : readL l = some (60, 4) := by
  cases l with
  | nil => simp [lt] at h
  | cons c r =>
    have hc : c.toNat = 38 := by simp [lt] at h; rw [← h.1]; rfl
    rw [readL, if_pos hc, if_neg (by simp [h0]), if_pos h]

theorem readL_gt (l : List UInt8) (h0 : amp.isPrefixOf l = false) (h1 : lt.isPrefixOf l = false) (h : gt.isPrefixOf l = true) : readL l = some (62, 4) := by
  cases l with
  | nil => simp [gt] at h
  | cons c r =>
    have hc : c.toNat = 38 := by simp [gt] at h; rw [← h.1]; rfl
    rw [readL, if_pos hc, if_neg (by simp [h0]), if_neg (by simp [h1]), if_pos h]

theorem readL_quot (l : List UInt8) (h0 : amp.isPrefixOf l = false) (h1 : lt.isPrefixOf l = false) (h2 : gt.isPrefixOf l = false) (h : quot.isPrefixOf l = true) : readL l = some (34, 6) := by
  cases l with
  | nil => simp [quot] at h
  | cons c r =>
    have hc : c.toNat = 38 := by simp [quot] at h; rw [← h.1]; rfl
    rw [readL, if_pos hc, if_neg (by simp [h0]), if_neg (by simp [h1]), if_neg (by simp [h2]), if_pos h]

theorem readL_none (c : UInt8) (r : List UInt8) (hc : c.toNat = 38) (h0 : amp.isPrefixOf (c :: r) = false) (h1 : lt.isPrefixOf (c :: r) = false) (h2 : gt.isPrefixOf (c :: r) = false) (h3 : quot.isPrefixOf (c :: r) = false) : readL (c :: r) = none := by
  rw [readL, if_pos hc, if_neg (by simp [h0]), if_neg (by simp [h1]), if_neg (by simp [h2]), if_neg (by simp [h3])]

theorem isPrefixOf_le {a l : List UInt8} (h : a.isPrefixOf l = true) : a.length ≤ l.length := (List.isPrefixOf_iff_prefix.1 h).length_le

/-- What is read is one byte at least, and lies in the text. -/
theorem readL_le (l : List UInt8) (x : UInt8) (k : Nat) (h : readL l = some (x, k)) : 1 ≤ k ∧ k ≤ l.length := by
  cases l with
  | nil => simp [readL] at h
  | cons c r =>
    rw [readL] at h
    split at h
    · split at h
      · rename_i hp; have := isPrefixOf_le hp; simp at h; obtain ⟨_, rfl⟩ := h; simp [amp] at this; simp; omega
      · split at h
        · rename_i hp; have := isPrefixOf_le hp; simp at h; obtain ⟨_, rfl⟩ := h; simp [lt] at this; simp; omega
        · split at h
          · rename_i hp; have := isPrefixOf_le hp; simp at h; obtain ⟨_, rfl⟩ := h; simp [gt] at this; simp; omega
          · split at h
            · rename_i hp; have := isPrefixOf_le hp; simp at h; obtain ⟨_, rfl⟩ := h; simp [quot] at this; simp; omega
            · simp at h
    · simp at h; obtain ⟨_, rfl⟩ := h; simp

end Go.Proofs.Ytigcmabnfmnpmaa
