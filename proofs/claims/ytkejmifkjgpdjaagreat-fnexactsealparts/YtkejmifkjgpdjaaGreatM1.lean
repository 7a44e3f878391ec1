/- Small laws of no program: an owned row of bytes as a string; bytes as cells; a call that leaves what was there. A row of attrs, read. A region that draws its order, whose operations only read and whose callees write into no block that was there: walked once, in the order of the text. -/
import Derived.Test.YtkejmifkjgpdjaaGreatRows
import Derived.WalkKit
import Derived.OwnWalk
import Derived.Laws.BytesArg
import Derived.Lib.AppendStr
import Derived.Lib.UnsafeStr
import Derived.Lib.Builder
import Derived.Below
import Derived.IntWalk
import Derived.Lib.BufferWrite
import Derived.Maps.AppendAt
import Derived.Deep.QuietTactic
import Derived.BigQuiet
namespace Go.Proofs.YtkejmifkjgpdjaaGreat
open Go.RowKit

theorem byteCells_app (a b : List UInt8) : Lib.byteCells (a ++ b) = Lib.byteCells a ++ Lib.byteCells b := by simp [Lib.byteCells]

theorem strCells_eq (l : List UInt8) : Lib.strCells ⟨l.toArray⟩ = Lib.byteCells l := by simp [Lib.strCells, Lib.byteCells]

theorem run_str_own {P : Program} {w : World} {base : Nat} {e src dst : TypeId} {v : Value} {l : List UInt8} (hs : P.underlying src = some (.slice e)) (he : P.underlying e = some (.int .u8)) (hd : P.underlying dst = some .string)
    (hown : w.ownsRow base e 1 v l.length (Lib.byteCells l)) : (convert src dst v).run P w = .ok (.string ⟨l.toArray⟩) w := by
  rcases hown.2 with ⟨rfl, h0⟩ | ⟨g, cap, cur, rfl, _⟩
  · have : l = [] := List.length_eq_zero_iff.1 h0
    subst this
    rw [run_convert_bytes_nil w src e hs he 0 0 dst hd]
    rfl
  · have h := run_convert_bytes_arg (P := P) w src e hs he g 0 l.length cap (l.map fun b => (b.toNat : Int)) (by simp) (fun i hi => by
      have := hown.cells (g := g) rfl i (.int .u8 (l[i]'hi).toNat) (by simp [Lib.byteCells, hi])
      have hplain : (⟨g, 0, none⟩ : Addr).add i = ⟨g, 0 + i, none⟩ := by unfold Addr.add; split <;> simp_all
      rw [hplain] at this
      rw [this]
      simp [List.getD, hi]) dst hd
    rw [h]
    simp [strOfNums, Function.comp_def]

theorem lt_of_heap {w : World} {b : Nat} {o : Obj} (h : w.heap[b]? = some o) : b < w.heap.size := by
  rcases Nat.lt_or_ge b w.heap.size with h' | h'
  · exact h'
  · simp [Array.getElem?_eq_none h'] at h

theorem ownsRow_below {w w1 : World} {base : Nat} {e : TypeId} {size : Nat} {v : Value} {n : Nat} {xs : List Value} (h : w.ownsRow base e size v n xs) (hb : Below w.heap.size w w1) : w1.ownsRow base e size v n xs := by
  obtain ⟨hl, h⟩ := h
  refine ⟨hl, ?_⟩
  rcases h with h | ⟨g, cap, cur, hv, hg, hh, r⟩
  · exact .inl h
  · exact .inr ⟨g, cap, cur, hv, hg, (hb.block g (lt_of_heap hh)).trans hh, r⟩

theorem builderAt_below {w w1 : World} {T e : TypeId} {B b : Nat} {p : Value} {bs : List Value} (h : Lib.BuilderAt T e B b p bs w) (hb : Below w.heap.size w w1) : Lib.BuilderAt T e B b p bs w1 := by
  obtain ⟨hB, v, hh, hown, hne⟩ := h
  exact ⟨hB, v, (hb.block b (lt_of_heap hh)).trans hh, ownsRow_below hown hb, hne⟩

theorem isBuilder_below {w w1 : World} {T e : TypeId} {B b : Nat} {bs : List Value} (h : Lib.IsBuilder T e B b bs w) (hb : Below w.heap.size w w1) : Lib.IsBuilder T e B b bs w1 :=
  h.elim (fun x => .inl (builderAt_below x hb)) (fun x => .inr (builderAt_below x hb))

end Go.Proofs.YtkejmifkjgpdjaaGreat

namespace Go.Proofs.YtkejmifkjgpdjaaGreat
open Go.RowKit
set_option linter.unusedVariables false
set_option linter.unusedSimpArgs false

theorem hid {p : Prop} (h : p) : Hid p := h

section
variable {P : Program} {α : Type} {X : Sem α} {w : World} {o : Oper} {a : Act} {K : Act → World → Prop} {Q : Exit → Act → World → Prop} {g : α → World → Result Next}

/-- Where the walk stands still at an operation whose run is known. -/
theorem upon_run {v : α} {w' : World} (hrun : X.run P w = .ok v w') (h : o.upon P a K Q (g v w')) : o.upon P a K Q ((X.run P w).andThen g) := by
  rw [hrun]
  exact h

/-- .. or known to be one of some. -/
theorem upon_ex {R : α → World → Prop} (hrun : ∃ v w', X.run P w = .ok v w' ∧ R v w') (h : ∀ v w', R v w' → o.upon P a K Q (g v w')) : o.upon P a K Q ((X.run P w).andThen g) := by
  obtain ⟨v, w', e, r⟩ := hrun
  rw [e]
  exact h v w' r

end

/-- A name and a value. -/
structure At where
  name : ByteArray
  value : ByteArray

/-- The attrs lie in a row from a on. -/
def AtRow (w : World) (a : Option Addr) (l : List At) : Prop :=
  ∀ j (h : j < l.length), ∃ b o, a = some ⟨b, o, none⟩ ∧ b < w.heap.size ∧ w.cell? ⟨b, o + j * 2, none⟩ = some (.string l[j].name) ∧ w.cell? ⟨b, o + j * 2 + 1, none⟩ = some (.string l[j].value)

theorem AtRow.below {w w' : World} {a : Option Addr} {l : List At} (h : AtRow w a l) (hb : Below w.heap.size w w') : AtRow w' a l := by
  intro j hj
  obtain ⟨b, o, ha, hlt, hc, hd⟩ := h j hj
  exact ⟨b, o, ha, Nat.lt_of_lt_of_le hlt hb.size, (hb.cell (p := ⟨b, o + j * 2, none⟩) hlt).trans hc, (hb.cell (p := ⟨b, o + j * 2 + 1, none⟩) hlt).trans hd⟩

/-- Names and values of at most so many bytes. -/
def AtSz (n : Nat) (l : List At) : Prop := ∀ x ∈ l, x.name.size ≤ n ∧ x.value.size ≤ n

theorem bcell {W w1 : World} (hb : Below W.heap.size W w1) : (∀ b o, b < W.heap.size → w1.cell? ⟨b, o, none⟩ = W.cell? ⟨b, o, none⟩) ∧ (∀ b o, b < W.heap.size → w1.frozen? ⟨b, o, none⟩ = W.frozen? ⟨b, o, none⟩) :=
  ⟨fun b o h => hb.cell (p := ⟨b, o, none⟩) h, fun b o h => hb.frozen (p := ⟨b, o, none⟩) h⟩

theorem bb {w a b : World} (h : Below w.heap.size w a) (k : Below a.heap.size a b) : Below w.heap.size w b := h.trans (k.mono h.size)

theorem str_beq (a b : ByteArray) : (a.toList == b.toList) = decide (a = b) := by
  rw [ByteArray.toList_eq, ByteArray.toList_eq]
  by_cases h : a = b
  · subst h; simp
  · have : ¬ a.data.toList = b.data.toList := fun e => h (ByteArray.ext (Array.toList_inj.1 e))
    rw [decide_eq_false h, beq_eq_false_iff_ne]
    exact this

theorem take_snocN {α : Type} {l : List α} {i : Nat} (h : i < l.length) : l.take (i + 1) = l.take i ++ [l[i]] := List.take_succ_eq_append_getElem h

theorem below_drewN {n : Nat} {w w1 : World} (h : Below n w w1) (k : Nat) : Below n w (w1.drewN k) := ⟨h.os, h.tape, h.output, h.size, h.block⟩

/-- The value of the first with this name. -/
def valF (l : List At) (name : ByteArray) : Option ByteArray := open Classical in (l.find? fun x => decide (x.name = name)).map (·.value)

theorem valF_nil (name : ByteArray) : valF [] name = none := rfl

theorem valF_none {l : List At} {name : ByteArray} (h : ∀ x ∈ l, ¬ x.name = name) : valF l name = none := by
  unfold valF
  rw [List.find?_eq_none.2 (fun x hx => by simpa using h x hx)]
  rfl

theorem valF_at {l : List At} {name : ByteArray} {i : Nat} (hi : i < l.length) (h : ∀ x ∈ l.take i, ¬ x.name = name) (he : l[i].name = name) : valF l name = some l[i].value := by
  unfold valF
  have e : l = l.take i ++ l[i] :: l.drop (i + 1) := by
    conv => lhs; rw [← List.take_append_drop i l]
    rw [List.drop_eq_getElem_cons hi]
  have e2 : l.find? (fun x => decide (x.name = name)) = (l.take i ++ l[i] :: l.drop (i + 1)).find? (fun x => decide (x.name = name)) := congrArg _ e
  rw [e2, List.find?_append, List.find?_eq_none.2 (fun x hx => by simpa using h x hx), List.find?_cons_of_pos (by simpa using he)]
  rfl

set_option maxHeartbeats 1000000 in
theorem cValueInS (a : Option Addr) (cap : Nat) (l : List At) (name : ByteArray) (w : World) (hR : AtRow w a l) (hz : AtSz 1048576 l) (hn : l.length ≤ 1048576) (hm : name.size ≤ 1048576) :
    Calls Tryz.prog 35 #[.slice a l.length cap, .string name] w fun e w' => e = .returned (.tuple #[.string ((valF l name).getD ByteArray.empty), .bool (valF l name).isSome]) ∧ w' = w := by
  obtain ⟨V, hV⟩ : ∃ V, valF l name = V := ⟨_, rfl⟩
  have HV := hid hV
  rw [hV]
  clear hV
  have HR := hid hR
  have HZ := hid hz
  clear hR hz
  obtain ⟨n, hnn⟩ : ∃ n, l.length = n := ⟨_, rfl⟩
  have HN := hid hnn
  rw [hnn] at hn ⊢
  clear hnn
  go_enter Tryz.func35, Tryz.ntmps35
  go_wp2
  go_loop [6] (fun k => ∃ i : Nat, k = .int .i64 (i : Int) ∧ i ≤ n ∧ Hid (∀ x ∈ l.take i, ¬ x.name = name)) (fun k => n - (intOf k).toNat)
  case atStart => exact ⟨0, rfl, Nat.zero_le _, fun x hx => by simp at hx⟩
  case round =>
    obtain ⟨i, rfl, hi, HO⟩ := hrel
    by_cases hlt : i < n
    · have his : i < l.length := by rw [HN.out]; exact hlt
      obtain ⟨b, o, rfl, hb, c1, c2⟩ := HR.out i his
      have hin : (i : Int) < (n : Int) := by omega
      have HT := hid (take_snocN his)
      have z1 := (HZ.out _ (List.getElem_mem his)).1
      have z2 := (HZ.out _ (List.getElem_mem his)).2
      by_cases hq : l[i].name = name
      · have hv := valF_at his HO.out hq
        rw [HV.out] at hv
        have hd : (l[i].name.toList == name.toList) = true := by rw [str_beq]; exact decide_eq_true hq
        obtain ⟨x, hx⟩ : ∃ x, l[i].name = x := ⟨_, rfl⟩
        obtain ⟨y, hy⟩ : ∃ y, l[i].value = y := ⟨_, rfl⟩
        rw [hx] at c1 z1 hd
        rw [hy] at c2 z2 hv
        have HW := hid hv
        clear hx hy hv HV hq HT
        go_wp2
        go_ret2
        exact ⟨by rw [HW.out]; rfl, rfl⟩
      · have hd : (l[i].name.toList == name.toList) = false := by rw [str_beq]; exact decide_eq_false hq
        have HO2 := hid (show ∀ x ∈ l.take (i + 1), ¬ x.name = name by
          rw [HT.out]
          intro x hx
          rcases List.mem_append.1 hx with h | h
          · exact HO.out x h
          · rw [List.mem_singleton] at h
            subst h
            exact hq)
        clear hq HT
        generalize l[i].name = x at c1 z1 hd
        generalize l[i].value = y at c2 z2
        go_wp2
        go_round
        case rel => exact ⟨i + 1, by go_num, by omega, HO2.out⟩
        case measure => simp [intOf]; omega
    · have hie : i = n := by omega
      subst hie
      have h1 := HO.out
      rw [List.take_of_length_le (by rw [HN.out]; exact Nat.le_refl _)] at h1
      have hv := valF_none h1
      rw [HV.out] at hv
      have HW := hid hv
      clear h1 HO HV hv
      go_wp2
      go_ret2
      exact ⟨by rw [HW.out]; rfl, rfl⟩

end Go.Proofs.YtkejmifkjgpdjaaGreat

namespace Go.Proofs.YtkejmifkjgpdjaaGreat
open Go.RowKit

/-- A world in which all that was there stands. -/
structure BW (w0 : World) where
  w : World
  h : Below w0.heap.size w0 w

theorem bw_any (w0 : World) : Nonempty (BW w0) := ⟨⟨w0, Below.refl _ w0⟩⟩

theorem wp_region_below {P : Program} {id : Nat} {Q : Exit → Act → World → Prop} {a : Act} {w w0 : World} {l : List Oper} (hm : P.follows .mixedOrders = true) (hB : Region.lexB .any l.toArray = true) (hw : Below w0.heap.size w0 w)
    (h : wpQuiet P l.toArray (fun w' => ∃ p : BW w0, w' = p.w) (fun a' => ∀ w', (∃ p : BW w0, w' = p.w) → Q .normal a' w') l a) : (Code.region id l.toArray true).wp P Q a w :=
  wp_region_quiet (C := fun w' => ∃ p : BW w0, w' = p.w) hm hB ⟨⟨w.drew, hw.drew⟩, rfl⟩ (by simpa using h)

theorem calls_bw {P : Program} {f : FuncId} {args : Array Value} {w0 : World} {v : Value} (p : BW w0) (h : Calls P f args p.w fun e w' => e = .returned v ∧ Below p.w.heap.size p.w w') :
    Calls P f args p.w fun e w'' => e = .returned v ∧ ∃ q : BW w0, w'' = q.w :=
  h.mono fun _ _ ⟨he, hb⟩ => ⟨he, ⟨_, p.h.trans (hb.mono p.h.size)⟩, rfl⟩

end Go.Proofs.YtkejmifkjgpdjaaGreat
