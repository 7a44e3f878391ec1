/- Contracts of what a token is shown as, of the specification. -/
import Derived.Test.YtkcmagfbacmllaaNOkT
import Derived.Test.YtkcmagfbacmllaaSEEscaped
namespace Go.Proofs.Ytkcmagfbacmllaa
open Go.RowKit
set_option linter.unusedVariables false
set_option linter.unusedSimpArgs false

/-- A text as it is escaped. -/
def escS (q : Bool) (s : ByteArray) : ByteArray := ⟨(escapedL q s.data.toList).toArray⟩

/-- An attr as it is shown. -/
def atS (x : At) : ByteArray := (((((⟨#[32]⟩ : ByteArray) ++ x.name) ++ ⟨#[61, 34]⟩) ++ escS true x.value) ++ ⟨#[34]⟩)

/-- Attrs as they are shown, behind what stands ahead. -/
def atsS : List At → ByteArray → ByteArray
  | [], s => s
  | x :: l, s => atsS l (s ++ atS x)

theorem atsS_snoc (l : List At) (x : At) (s : ByteArray) : atsS (l ++ [x]) s = atsS l s ++ atS x := by
  induction l generalizing s with
  | nil => rfl
  | cons y l ih => exact ih _

theorem escS_size (q : Bool) (s : ByteArray) : (escS q s).size ≤ 6 * s.size := by
  have e : (escS q s).size = (escapedL q s.data.toList).length := by unfold escS; simp [ByteArray.size]
  have e2 : s.size = s.data.toList.length := rfl
  rw [e, e2]
  unfold escapedL
  split
  · exact escL_le q _
  · simp

theorem atS_size (x : At) : (atS x).size ≤ 4 + x.name.size + 6 * x.value.size := by
  have h := escS_size true x.value
  have e1 : (⟨#[32]⟩ : ByteArray).size = 1 := rfl
  have e2 : (⟨#[61, 34]⟩ : ByteArray).size = 2 := rfl
  have e3 : (⟨#[34]⟩ : ByteArray).size = 1 := rfl
  unfold atS
  simp only [ByteArray.size_append, e1, e2, e3]
  omega

/-- A token as it is shown. -/
def showS (t : Tk) : ByteArray :=
  if t.kind = 2 then ((⟨#[60, 47]⟩ : ByteArray) ++ t.name) ++ ⟨#[62]⟩
  else if t.kind = 3 then escS false t.text
  else atsS t.attrs ((⟨#[60]⟩ : ByteArray) ++ t.name) ++ ⟨#[62]⟩

theorem atsS_size (l : List At) (s : ByteArray) (hz : AtSz 1048576 l) : (atsS l s).size ≤ s.size + l.length * 7340036 := by
  induction l generalizing s with
  | nil => simp [atsS]
  | cons x l ih =>
    have h1 := ih (s ++ atS x) (fun y hy => hz y (List.mem_cons_of_mem _ hy))
    have h2 := atS_size x
    have h3 := hz x List.mem_cons_self
    rw [ByteArray.size_append] at h1
    rw [List.length_cons]
    show (atsS l (s ++ atS x)).size ≤ _
    omega

theorem tokB_len {t : Tk} (h : tokB t = true) : t.attrs.length ≤ 6 := by
  unfold tokB at h
  split at h
  · simp only [Bool.and_eq_true] at h
    have h2 := h.2.1
    by_cases k : AttrsOk t.attrs
    · exact k.1
    · rw [attrsB_f k] at h2
      cases h2
  · split at h
    · simp only [Bool.and_eq_true, decide_eq_true_eq] at h
      omega
    · split at h
      · simp only [Bool.and_eq_true, decide_eq_true_eq] at h
        omega
      · cases h

/-- What ShowToken answers. -/
noncomputable def shownT (t : Tk) : ByteArray := if tokB t = true then showS t else ⟨#[]⟩

end Go.Proofs.Ytkcmagfbacmllaa
