/- Plain mathematics of names: letters, a text split at colons, a name and its two parts. -/
import Derived.WalkKit
namespace Go.Proofs.Ytdgppdjjmpjgkaa
open Go.RowKit

def letB (c : Int) : Bool := (decide (97 ≤ c) && decide (c ≤ 122)) || (decide (65 ≤ c) && decide (c ≤ 90))

def allL (l : List UInt8) : Bool := l.all fun c => letB c.toNat

/-- One to ten letters. -/
def lettersL (l : List UInt8) : Bool := (decide (1 ≤ l.length) && decide (l.length ≤ 10)) && allL l

theorem sz (s : ByteArray) : s.size = s.data.toList.length := rfl

theorem take_snoc (s : ByteArray) (k : Nat) (h : k < s.size) : s.data.toList.take (k + 1) = s.data.toList.take k ++ [s[k]] := by
  rw [List.take_succ_eq_append_getElem (by simpa using h)]; rfl

theorem take_full (s : ByteArray) (k : Nat) (h : ¬ k < s.size) : s.data.toList.take k = s.data.toList := by
  have e : s.size = s.data.toList.length := rfl
  exact List.take_of_length_le (by omega)

theorem allL_snoc (l : List UInt8) (c : UInt8) : allL (l ++ [c]) = (allL l && letB c.toNat) := by
  simp [allL]

theorem allL_no (s : ByteArray) (k : Nat) (h : k < s.size) (hb : letB s[k].toNat = false) : allL s.data.toList = false := by
  have hm : s[k] ∈ s.data.toList := by simp [ByteArray.getElem_eq_getElem_data]
  cases hp : allL s.data.toList with
  | false => rfl
  | true =>
    unfold allL at hp
    rw [List.all_eq_true] at hp
    have := hp _ hm
    rw [hb] at this
    exact absurd this (by decide)

/-- The pieces between the colons. -/
def splitA : List UInt8 → List UInt8 → List (List UInt8)
  | cur, [] => [cur]
  | cur, c :: r => if c.toNat = 58 then cur :: splitA [] r else splitA (cur ++ [c]) r

def splitL (l : List UInt8) : List (List UInt8) := splitA [] l

/-- Where the first colon stands. -/
def colonAt (l : List UInt8) : Option Nat := l.findIdx? fun c => c.toNat == 58

def preL (l : List UInt8) : List UInt8 := match colonAt l with
  | none => []
  | some a => l.take a

def locL (l : List UInt8) : List UInt8 := match colonAt l with
  | none => l
  | some a => l.drop (a + 1)

def nameL (l : List UInt8) : Bool := match colonAt l with
  | none => lettersL l
  | some _ => lettersL (preL l) && lettersL (locL l)

theorem splitA_no (l : List UInt8) : ∀ cur, colonAt l = none → splitA cur l = [cur ++ l] := by
  induction l with
  | nil => intro cur _; simp [splitA]
  | cons c r ih =>
    intro cur h
    unfold colonAt at h
    rw [List.findIdx?_cons] at h
    split at h
    · simp at h
    · rename_i hc
      have hr : colonAt r = none := by
        unfold colonAt
        cases hh : List.findIdx? (fun c : UInt8 => c.toNat == 58) r with
        | none => rfl
        | some a => rw [hh] at h; simp at h
      rw [splitA, if_neg (by simpa using hc), ih _ hr]
      simp

theorem splitA_some (l : List UInt8) : ∀ cur a, colonAt l = some a → splitA cur l = (cur ++ l.take a) :: splitA [] (l.drop (a + 1)) := by
  induction l with
  | nil => intro cur a h; simp [colonAt] at h
  | cons c r ih =>
    intro cur a h
    unfold colonAt at h
    rw [List.findIdx?_cons] at h
    split at h
    · rename_i hc
      simp at h
      subst h
      rw [splitA, if_pos (by simpa using hc)]
      simp
    · rename_i hc
      cases hh : List.findIdx? (fun c : UInt8 => c.toNat == 58) r with
      | none => rw [hh] at h; simp at h
      | some b =>
        rw [hh] at h
        simp at h
        subst h
        rw [splitA, if_neg (by simpa using hc), ih _ b hh]
        simp

theorem splitL_no {l : List UInt8} (h : colonAt l = none) : splitL l = [l] := by
  unfold splitL; rw [splitA_no l [] h]; rfl

theorem splitL_some {l : List UInt8} {a : Nat} (h : colonAt l = some a) : splitL l = l.take a :: splitL (l.drop (a + 1)) := by
  unfold splitL; rw [splitA_some l [] a h]; rfl

theorem colon_mem {l : List UInt8} {a : Nat} (h : colonAt l = some a) : ∃ c, c ∈ l ∧ c.toNat = 58 := by
  unfold colonAt at h
  obtain ⟨ha, hp, _⟩ := List.findIdx?_eq_some_iff_getElem.1 h
  exact ⟨l[a], List.getElem_mem ha, by simpa using hp⟩

theorem colon_letters {l : List UInt8} {a : Nat} (h : colonAt l = some a) : lettersL l = false := by
  obtain ⟨c, hm, hc⟩ := colon_mem h
  have : allL l = false := by
    cases hp : allL l with
    | false => rfl
    | true =>
      unfold allL at hp
      rw [List.all_eq_true] at hp
      have := hp c hm
      rw [hc] at this
      exact absurd this (by decide)
  simp [lettersL, this]

/-- What spec.NameOk asks of the pieces. -/
def piecesOk (p : List (List UInt8)) : Bool := match p with
  | [a] => lettersL a
  | [a, b] => lettersL a && lettersL b
  | _ => false

theorem pieces_name (l : List UInt8) : piecesOk (splitL l) = nameL l := by
  cases h : colonAt l with
  | none => rw [splitL_no h]; simp [piecesOk, nameL, h]
  | some a =>
    rw [splitL_some h]
    cases h2 : colonAt (l.drop (a + 1)) with
    | none => rw [splitL_no h2]; simp [piecesOk, nameL, preL, locL, h]
    | some b =>
      have hn : lettersL (l.drop (a + 1)) = false := colon_letters h2
      rw [splitL_some h2]
      have hne : ∀ x, splitL x ≠ [] := by
        intro x
        cases hx : colonAt x with
        | none => rw [splitL_no hx]; simp
        | some c => rw [splitL_some hx]; simp
      cases h3 : splitL ((l.drop (a + 1)).drop (b + 1)) with
      | nil => exact absurd h3 (hne _)
      | cons x y => simp [piecesOk, nameL, preL, locL, h, hn]

end Go.Proofs.Ytdgppdjjmpjgkaa
