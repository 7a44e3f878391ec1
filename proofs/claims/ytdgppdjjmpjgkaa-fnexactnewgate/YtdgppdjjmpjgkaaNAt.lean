/- A row of attrs, read. -/
import Derived.Test.YtdgppdjjmpjgkaaRows
import Derived.Test.YtdgppdjjmpjgkaaKit
import Derived.WalkKit
import Derived.Below
import Derived.IntWalk
import Derived.Lib.BufferWrite
import Derived.Maps.AppendAt
import Derived.Deep.QuietTactic
import Derived.BigQuiet
namespace Go.Proofs.Ytdgppdjjmpjgkaa
open Go.RowKit
set_option linter.unusedVariables false
set_option linter.unusedSimpArgs false

theorem hid {p : Prop} (h : p) : Hid p := h

section
variable {P : Program} {α : Type} {X : Sem α} {w : World} {o : Oper} {a : Act} {K : Act → World → Prop} {Q : Exit → Act → World → Prop} {g : α → World → Result Next}

/-- Where the walk stands still at an operation whose run is known. -/
theorem upon_run {v : α} {w' : World} (hrun : X.run P w = .ok v w') (h : o.upon P a K Q (g v w')) : o.upon P a K Q ((X.run P w).andThen g) := by
  rw [hrun]
  exact h

/-- .. or known to be one of some. -/
theorem upon_ex {R : α → World → Prop} (hrun : ∃ v w', X.run P w = .ok v w' ∧ R v w') (h : ∀ v w', R v w' → o.upon P a K Q (g v w')) : o.upon P a K Q ((X.run P w).andThen g) := by
  obtain ⟨v, w', e, r⟩ := hrun
  rw [e]
  exact h v w' r

end

/-- A name and a value. -/
structure At where
  name : ByteArray
  value : ByteArray

/-- The attrs lie in a row from a on. -/
def AtRow (w : World) (a : Option Addr) (l : List At) : Prop :=
  ∀ j (h : j < l.length), ∃ b o, a = some ⟨b, o, none⟩ ∧ b < w.heap.size ∧ w.cell? ⟨b, o + j * 2, none⟩ = some (.string l[j].name) ∧ w.cell? ⟨b, o + j * 2 + 1, none⟩ = some (.string l[j].value)

theorem AtRow.below {w w' : World} {a : Option Addr} {l : List At} (h : AtRow w a l) (hb : Below w.heap.size w w') : AtRow w' a l := by
  intro j hj
  obtain ⟨b, o, ha, hlt, hc, hd⟩ := h j hj
  exact ⟨b, o, ha, Nat.lt_of_lt_of_le hlt hb.size, (hb.cell (p := ⟨b, o + j * 2, none⟩) hlt).trans hc, (hb.cell (p := ⟨b, o + j * 2 + 1, none⟩) hlt).trans hd⟩

/-- Names and values of at most so many bytes. -/
def AtSz (n : Nat) (l : List At) : Prop := ∀ x ∈ l, x.name.size ≤ n ∧ x.value.size ≤ n

theorem bcell {W w1 : World} (hb : Below W.heap.size W w1) : (∀ b o, b < W.heap.size → w1.cell? ⟨b, o, none⟩ = W.cell? ⟨b, o, none⟩) ∧ (∀ b o, b < W.heap.size → w1.frozen? ⟨b, o, none⟩ = W.frozen? ⟨b, o, none⟩) :=
  ⟨fun b o h => hb.cell (p := ⟨b, o, none⟩) h, fun b o h => hb.frozen (p := ⟨b, o, none⟩) h⟩

theorem bb {w a b : World} (h : Below w.heap.size w a) (k : Below a.heap.size a b) : Below w.heap.size w b := h.trans (k.mono h.size)

theorem str_beq (a b : ByteArray) : (a.toList == b.toList) = decide (a = b) := by
  rw [ByteArray.toList_eq, ByteArray.toList_eq]
  by_cases h : a = b
  · subst h; simp
  · have : ¬ a.data.toList = b.data.toList := fun e => h (ByteArray.ext (Array.toList_inj.1 e))
    rw [decide_eq_false h, beq_eq_false_iff_ne]
    exact this

theorem take_snocN {α : Type} {l : List α} {i : Nat} (h : i < l.length) : l.take (i + 1) = l.take i ++ [l[i]] := List.take_succ_eq_append_getElem h

theorem below_drewN {n : Nat} {w w1 : World} (h : Below n w w1) (k : Nat) : Below n w (w1.drewN k) := ⟨h.os, h.tape, h.output, h.size, h.block⟩

/-- The value of the first with this name. -/
def valF (l : List At) (name : ByteArray) : Option ByteArray := open Classical in (l.find? fun x => decide (x.name = name)).map (·.value)

theorem valF_nil (name : ByteArray) : valF [] name = none := rfl

theorem valF_none {l : List At} {name : ByteArray} (h : ∀ x ∈ l, ¬ x.name = name) : valF l name = none := by
  unfold valF
  rw [List.find?_eq_none.2 (fun x hx => by simpa using h x hx)]
  rfl

theorem valF_at {l : List At} {name : ByteArray} {i : Nat} (hi : i < l.length) (h : ∀ x ∈ l.take i, ¬ x.name = name) (he : l[i].name = name) : valF l name = some l[i].value := by
  unfold valF
  have e : l = l.take i ++ l[i] :: l.drop (i + 1) := by
    conv => lhs; rw [← List.take_append_drop i l]
    rw [List.drop_eq_getElem_cons hi]
  have e2 : l.find? (fun x => decide (x.name = name)) = (l.take i ++ l[i] :: l.drop (i + 1)).find? (fun x => decide (x.name = name)) := congrArg _ e
  rw [e2, List.find?_append, List.find?_eq_none.2 (fun x hx => by simpa using h x hx), List.find?_cons_of_pos (by simpa using he)]
  rfl

end Go.Proofs.Ytdgppdjjmpjgkaa
