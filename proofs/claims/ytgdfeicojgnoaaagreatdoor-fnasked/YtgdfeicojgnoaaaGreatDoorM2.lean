/- Contracts of impl: letters, the first colon, a name split, NameOk. Contracts of strings.Clone, impl.NameOk and impl.Parts. A row of attrs, read. -/
import Derived.Test.YtgdfeicojgnoaaaGreatDoorRows
import Derived.Test.YtgdfeicojgnoaaaGreatDoorM1
import Derived.WalkKit
import Derived.Deep.QuietTactic
import Derived.BigQuiet
import Derived.OwnWalk
import Derived.Lib.BufferWrite
import Derived.Lib.UnsafeStr
import Derived.Laws.CopyOwn
import Derived.Below
import Derived.IntWalk
import Derived.Maps.AppendAt
namespace Go.Proofs.YtgdfeicojgnoaaaGreatDoor
open Go.RowKit
set_option linter.unusedVariables false
set_option linter.unusedSimpArgs false

end Go.Proofs.YtgdfeicojgnoaaaGreatDoor

namespace Go.Proofs.YtgdfeicojgnoaaaGreatDoor
open Go.RowKit
set_option linter.unusedVariables false
set_option linter.unusedSimpArgs false

theorem info5 : (Tryz.prog.info? 5).map (fun i => (i.zero, i.size, i.bytes)) = some (some (.int .u8 0), 1, 1) := by kernel_rfl
theorem size5 : (Tryz.prog.info? 5).map (·.size) = some 1 := by kernel_rfl
theorem cells5 : Tryz.prog.cellsOf 5 = 1 := by kernel_rfl

theorem empty_of (s : ByteArray) (h : s.size = 0) : s = ⟨#[]⟩ := by
  have : s.data.toList = [] := List.length_eq_zero_iff.1 h
  apply ByteArray.ext
  apply Array.toList_inj.1
  simpa using this

set_option maxHeartbeats 1000000 in
set_option maxRecDepth 4000 in
theorem c_internal_stringslite_Clone (s : ByteArray) (w : World) (h0 : s.size ≤ 1048576) :
    Calls Tryz.prog 128 #[.string s] w fun e w' => e = .returned (.string s) ∧ Below w.heap.size w w' := by
  by_cases hz : s.size = 0
  · have hs := empty_of s hz
    subst hs
    go_enter Tryz.func128, Tryz.ntmps128
    go_wp2
    go_ret
    exact ⟨rfl, Below.refl _ _⟩
  · obtain ⟨i0, hi, hz0, hz1, hz2⟩ := info_parts info5
    have hzi : ¬ (s.size : Int) = 0 := by omega
    go_enter Tryz.func128, Tryz.ntmps128
    go_wp2_with (at_make; refine wpList_make_full _ rfl _ _ 22 rfl w.heap.size 5 i0 (.int .u8 0) 1 Tryz.underlying22 hi hz0 hz1 _ _ _ _ s.size rfl rfl rfl rfl (by rw [hz2]; omega) (by unfold maxLen; omega) (Nat.le_refl _) ?_)
    intro w1 hown hgrow
    obtain ⟨cur, hg, hcs⟩ : ∃ cur, w1.heap[w.heap.size]? = some (.cells cur 5 (0, 0)) ∧ cur.size = s.size := by
      rcases hown.2 with ⟨hv, _⟩ | ⟨g, cap, cur, hv, _, hg, _, _, hc, _⟩
      · cases hv
      · injection hv with e1 e2 e3
        injection e1 with e1
        injection e1 with e1
        subst e1
        exact ⟨cur, hg, by omega⟩
    have hB1 : Below w.heap.size w w1 := (Below.refl _ w).grown hgrow (Nat.le_refl _) (fun k hk => by cases hk)
    have hr := fun ty => Lib.run_copy_row_string (P := Tryz.prog) w1 22 9 ty 5 w.heap.size 0 s.size s.size s cur 5 Tryz.underlying22 size5 hg (Nat.le_refl _) (by omega)
    obtain ⟨w2, hw2⟩ : ∃ w2, w1.setRow w.heap.size (cur.toList.take 0 ++ Lib.byteCells s.data.toList ++ cur.toList.drop (0 + s.size)).toArray = w2 := ⟨_, rfl⟩
    have hB2 : Below w.heap.size w w2 := by rw [← hw2]; exact below_setRow hB1 (Nat.le_refl _) _
    have hcur : (cur.toList.take 0 ++ Lib.byteCells s.data.toList ++ cur.toList.drop (0 + s.size)).toArray = (Lib.byteCells s.data.toList).toArray := by
      rw [List.take_zero, List.nil_append, List.drop_of_length_le (by simp; omega), List.append_nil]
    have hh2 : w2.heap[w.heap.size]? = some (.cells (Lib.byteCells s.data.toList).toArray 5 (0, 0)) := by rw [← hw2, hcur]; exact setRow_heap _ _ _ _ _ _ hg
    rw [hw2] at hr
    have hne : s.data.toList ≠ [] := fun e => hz (by rw [sz, e]; rfl)
    have hsh : w2.shape? w.heap.size = some (5, s.size) := by
      have e : (Lib.byteCells s.data.toList).toArray.size = s.size := by rw [List.size_toArray, Lib.byteCells_length]; exact (sz s).symm
      simp [World.shape?, hh2]; rw [Lib.byteCells_length]; exact (sz s).symm
    have hun := fun ty => Lib.run_unsafeString_row (P := Tryz.prog) w2 205 3 ty 5 Tryz.underlying205 cells5 w.heap.size s.size hsh s.data.toList hne (by rw [sz s]; exact Nat.le_refl _) (by rw [← sz s]; omega) (fun j x hx => by
      have hplain : (⟨w.heap.size, 0, none⟩ : Addr).add j = ⟨w.heap.size, j, none⟩ := by unfold Addr.add; split <;> simp_all
      rw [hplain, Lib.cell_of_heap hh2]
      simp [Lib.byteCells, hx])
    have hun9 : (Builtin.unsafeString_ #[205, 3] 9 #[.pointer (some ⟨w.heap.size, 0, none⟩), .int .i64 s.size]).run Tryz.prog w2 = .ok (.string s) (w2.freeze ⟨w.heap.size, 0, none⟩ s.size) := hun 9
    clear hown hgrow hg hcs hw2 hcur hh2 hB1 hun hsh hne
    go_wp2
    go_ret
    exact ⟨rfl, Lib.below_freeze hB2 (p := ⟨w.heap.size, 0, none⟩) (Nat.le_refl _) _⟩

theorem c_strings_Clone (s : ByteArray) (w : World) (h0 : s.size ≤ 1048576) :
    Calls Tryz.prog 97 #[.string s] w fun e w' => e = .returned (.string s) ∧ Below w.heap.size w w' := by
  go_enter Tryz.func97, Tryz.ntmps97
  go_wp2_with (go_at_call 128; refine (c_internal_stringslite_Clone _ _ h0).mono ?_; rintro e w1 ⟨rfl, hb⟩)
  go_ret
  exact ⟨rfl, hb⟩

/-- What Parts answers. -/
def partP (l : List UInt8) : List UInt8 := if nameL l then preL l else []
def partL (l : List UInt8) : List UInt8 := if nameL l then locL l else []

theorem len_pre (l : List UInt8) : (preL l).length ≤ l.length := by
  unfold preL; split
  · simp
  · simp; omega
theorem len_loc (l : List UInt8) : (locL l).length ≤ l.length := by
  unfold locL; split
  · simp
  · simp

theorem size_mk (l : List UInt8) : (⟨l.toArray⟩ : ByteArray).size = l.length := by
  have := sz ⟨l.toArray⟩
  rw [this]

end Go.Proofs.YtgdfeicojgnoaaaGreatDoor

namespace Go.Proofs.YtgdfeicojgnoaaaGreatDoor
open Go.RowKit
set_option linter.unusedVariables false
set_option linter.unusedSimpArgs false

theorem hid {p : Prop} (h : p) : Hid p := h

section
variable {P : Program} {α : Type} {X : Sem α} {w : World} {o : Oper} {a : Act} {K : Act → World → Prop} {Q : Exit → Act → World → Prop} {g : α → World → Result Next}

/-- Where the walk stands still at an operation whose run is known. -/
theorem upon_run {v : α} {w' : World} (hrun : X.run P w = .ok v w') (h : o.upon P a K Q (g v w')) : o.upon P a K Q ((X.run P w).andThen g) := by
  rw [hrun]
  exact h

/-- .. or known to be one of some. -/
theorem upon_ex {R : α → World → Prop} (hrun : ∃ v w', X.run P w = .ok v w' ∧ R v w') (h : ∀ v w', R v w' → o.upon P a K Q (g v w')) : o.upon P a K Q ((X.run P w).andThen g) := by
  obtain ⟨v, w', e, r⟩ := hrun
  rw [e]
  exact h v w' r

end

/-- A name and a value. -/
structure At where
  name : ByteArray
  value : ByteArray

/-- The attrs lie in a row from a on. -/
def AtRow (w : World) (a : Option Addr) (l : List At) : Prop :=
  ∀ j (h : j < l.length), ∃ b o, a = some ⟨b, o, none⟩ ∧ b < w.heap.size ∧ w.cell? ⟨b, o + j * 2, none⟩ = some (.string l[j].name) ∧ w.cell? ⟨b, o + j * 2 + 1, none⟩ = some (.string l[j].value)

theorem AtRow.below {w w' : World} {a : Option Addr} {l : List At} (h : AtRow w a l) (hb : Below w.heap.size w w') : AtRow w' a l := by
  intro j hj
  obtain ⟨b, o, ha, hlt, hc, hd⟩ := h j hj
  exact ⟨b, o, ha, Nat.lt_of_lt_of_le hlt hb.size, (hb.cell (p := ⟨b, o + j * 2, none⟩) hlt).trans hc, (hb.cell (p := ⟨b, o + j * 2 + 1, none⟩) hlt).trans hd⟩

/-- Names and values of at most so many bytes. -/
def AtSz (n : Nat) (l : List At) : Prop := ∀ x ∈ l, x.name.size ≤ n ∧ x.value.size ≤ n

theorem bcell {W w1 : World} (hb : Below W.heap.size W w1) : (∀ b o, b < W.heap.size → w1.cell? ⟨b, o, none⟩ = W.cell? ⟨b, o, none⟩) ∧ (∀ b o, b < W.heap.size → w1.frozen? ⟨b, o, none⟩ = W.frozen? ⟨b, o, none⟩) :=
  ⟨fun b o h => hb.cell (p := ⟨b, o, none⟩) h, fun b o h => hb.frozen (p := ⟨b, o, none⟩) h⟩

theorem bb {w a b : World} (h : Below w.heap.size w a) (k : Below a.heap.size a b) : Below w.heap.size w b := h.trans (k.mono h.size)

theorem str_beq (a b : ByteArray) : (a.toList == b.toList) = decide (a = b) := by
  rw [ByteArray.toList_eq, ByteArray.toList_eq]
  by_cases h : a = b
  · subst h; simp
  · have : ¬ a.data.toList = b.data.toList := fun e => h (ByteArray.ext (Array.toList_inj.1 e))
    rw [decide_eq_false h, beq_eq_false_iff_ne]
    exact this

theorem take_snocN {α : Type} {l : List α} {i : Nat} (h : i < l.length) : l.take (i + 1) = l.take i ++ [l[i]] := List.take_succ_eq_append_getElem h

theorem below_drewN {n : Nat} {w w1 : World} (h : Below n w w1) (k : Nat) : Below n w (w1.drewN k) := ⟨h.os, h.tape, h.output, h.size, h.block⟩

/-- The value of the first with this name. -/
def valF (l : List At) (name : ByteArray) : Option ByteArray := open Classical in (l.find? fun x => decide (x.name = name)).map (·.value)

theorem valF_nil (name : ByteArray) : valF [] name = none := rfl

theorem valF_none {l : List At} {name : ByteArray} (h : ∀ x ∈ l, ¬ x.name = name) : valF l name = none := by
  unfold valF
  rw [List.find?_eq_none.2 (fun x hx => by simpa using h x hx)]
  rfl

theorem valF_at {l : List At} {name : ByteArray} {i : Nat} (hi : i < l.length) (h : ∀ x ∈ l.take i, ¬ x.name = name) (he : l[i].name = name) : valF l name = some l[i].value := by
  unfold valF
  have e : l = l.take i ++ l[i] :: l.drop (i + 1) := by
    conv => lhs; rw [← List.take_append_drop i l]
    rw [List.drop_eq_getElem_cons hi]
  have e2 : l.find? (fun x => decide (x.name = name)) = (l.take i ++ l[i] :: l.drop (i + 1)).find? (fun x => decide (x.name = name)) := congrArg _ e
  rw [e2, List.find?_append, List.find?_eq_none.2 (fun x hx => by simpa using h x hx), List.find?_cons_of_pos (by simpa using he)]
  rfl

end Go.Proofs.YtgdfeicojgnoaaaGreatDoor
