/- Contracts of the methods by which a sign is written: reference, itself, inText, inQuotes. What is spoken by a seal; contracts of Spoken, the specification's and the program's. Seals: what the document says of them, as functions of the nodes. -/
import Derived.Test.YtnbpcgeojmikoaaGreatRows
import Derived.Test.YtnbpcgeojmikoaaGreatM6
import Derived.Test.YtnbpcgeojmikoaaGreatM1
import Derived.Test.YtnbpcgeojmikoaaGreatM14
import Derived.Test.YtnbpcgeojmikoaaGreatM8
import Derived.WalkKit
namespace Go.Proofs.YtnbpcgeojmikoaaGreat
open Go.RowKit

theorem ret_str {a b : List UInt8} (h : a = b) : Ending.returned (.string ⟨a.toArray⟩) = .returned (.string ⟨b.toArray⟩) := by rw [h]

end Go.Proofs.YtnbpcgeojmikoaaGreat

namespace Go.Proofs.YtnbpcgeojmikoaaGreat
open Go.RowKit
set_option linter.unusedVariables false
set_option linter.unusedSimpArgs false

/-- What is locked. -/
def spokenF (r s : ByteArray) : ByteArray := (((⟨#[82, 101, 102, 61]⟩ : ByteArray) ++ r) ++ ⟨#[59, 83, 117, 109, 61]⟩) ++ s

theorem spoken_by (r s : ByteArray) : ((((((⟨#[82, 101, 102]⟩ : ByteArray) ++ ⟨#[61]⟩) ++ r) ++ ⟨#[59]⟩) ++ ⟨#[83, 117, 109]⟩) ++ ⟨#[61]⟩) ++ s = spokenF r s := by
  unfold spokenF
  rw [show (⟨#[82, 101, 102, 61]⟩ : ByteArray) = (⟨#[82, 101, 102]⟩ : ByteArray) ++ ⟨#[61]⟩ from by decide, show (⟨#[59, 83, 117, 109, 61]⟩ : ByteArray) = ((⟨#[59]⟩ : ByteArray) ++ ⟨#[83, 117, 109]⟩) ++ ⟨#[61]⟩ from by decide]
  simp only [ByteArray.append_assoc]

end Go.Proofs.YtnbpcgeojmikoaaGreat

namespace Go.Proofs.YtnbpcgeojmikoaaGreat
open Go.RowKit
set_option linter.unusedVariables false
set_option linter.unusedSimpArgs false

def sealS : ByteArray := ⟨#[83, 101, 97, 108]⟩
def sealM : ByteArray := ⟨#[115, 101, 97, 108]⟩
def refS : ByteArray := ⟨#[82, 101, 102]⟩
def sumS : ByteArray := ⟨#[83, 117, 109]⟩
def signS : ByteArray := ⟨#[83, 105, 103, 110]⟩

/-- Just ten digits. -/
def tenB (x : ByteArray) : Bool := (numOf x.data.toList).2

theorem num_nn (l : List UInt8) : decide ((numOf l).1 < 0) = false := by
  unfold numOf
  split <;> simp

/-- What a seal may have besides declarations. -/
noncomputable def sealAt (x : At) : Bool := open Classical in decide (x.name = refS) || ((decide (x.name = sumS) || decide (x.name = signS)) && tenB x.value)

/-- All but the declarations. -/
noncomputable def ownA (l : List At) : List At := l.filter fun x => !(declF x).isSome

noncomputable def sealL (l : List At) : Bool := (ownA l).all sealAt && decide ((ownA l).length = 3)

noncomputable def atsJ (ts : List Tk) (k : Nat) : List At := match ts[k]? with
  | some t => t.attrs
  | none => []

noncomputable def sealN (ts : List Tk) (k : Nat) : Bool := !decide ((nameI ts k).size = 0) && knownN ts k sealS sealM && decide (endN ts k = k + 1) && sealL (atsJ ts k)

noncomputable def sealsN (ts : List Tk) (k : Nat) : List Nat := (kidsN ts k).filter (sealN ts)

noncomputable def sealsI (ts : List Tk) (x : Int) : List Nat := if (namesB ts && elemB ts x) = true then sealsN ts x.toNat else []

theorem ownA_skip {l : List At} {y : At} (h : (declF y).isSome = true) : ownA (l ++ [y]) = ownA l := by
  unfold ownA
  rw [List.filter_append, List.filter_cons_of_neg (by rw [h]; decide)]
  simp

theorem ownA_more {l : List At} {y : At} (h : declF y = none) : ownA (l ++ [y]) = ownA l ++ [y] := by
  unfold ownA
  rw [List.filter_append, List.filter_cons_of_pos (by rw [h]; decide)]
  rfl

/-- The first attrs are right, and so many of them are no declarations. -/
def SealTo (l : List At) (n : Nat) : Prop := (ownA l).all sealAt = true ∧ (ownA l).length = n

theorem sealTo_nil : SealTo [] 0 := ⟨rfl, rfl⟩

theorem SealTo.skip {l : List At} {y : At} {n : Nat} (h : SealTo l n) (hd : (declF y).isSome = true) : SealTo (l ++ [y]) n := by
  unfold SealTo
  rw [ownA_skip hd]
  exact h

theorem SealTo.more {l : List At} {y : At} {n : Nat} (h : SealTo l n) (hd : declF y = none) (hs : sealAt y = true) : SealTo (l ++ [y]) (n + 1) := by
  unfold SealTo
  rw [ownA_more hd, List.all_append, List.length_append, h.1, h.2]
  simp [hs]

theorem SealTo.le {l : List At} {n : Nat} (h : SealTo l n) : n ≤ l.length := by
  rw [← h.2]
  exact List.length_filter_le _ _

theorem SealTo.is {l : List At} {n : Nat} (h : SealTo l n) : sealL l = decide (n = 3) := by
  unfold sealL
  rw [h.1, h.2, Bool.true_and]

theorem sealL_bad {l : List At} {y : At} (hm : y ∈ l) (hd : declF y = none) (hs : sealAt y = false) : sealL l = false := by
  unfold sealL
  have h : (ownA l).all sealAt = false := by
    rw [List.all_eq_false]
    exact ⟨y, List.mem_filter.2 ⟨hm, by rw [hd]; rfl⟩, by rw [hs]; decide⟩
  rw [h]
  rfl

theorem ref_beq (s : ByteArray) : (s.toList == [82, 101, 102]) = decide (s = refS) := by
  rw [← str_beq]
  have e : refS.toList = [82, 101, 102] := by rw [ByteArray.toList_eq]; rfl
  rw [e]

theorem sum_beq (s : ByteArray) : (s.toList == [83, 117, 109]) = decide (s = sumS) := by
  rw [← str_beq]
  have e : sumS.toList = [83, 117, 109] := by rw [ByteArray.toList_eq]; rfl
  rw [e]

theorem sign_beq (s : ByteArray) : (s.toList == [83, 105, 103, 110]) = decide (s = signS) := by
  rw [← str_beq]
  have e : signS.toList = [83, 105, 103, 110] := by rw [ByteArray.toList_eq]; rfl
  rw [e]

end Go.Proofs.YtnbpcgeojmikoaaGreat
