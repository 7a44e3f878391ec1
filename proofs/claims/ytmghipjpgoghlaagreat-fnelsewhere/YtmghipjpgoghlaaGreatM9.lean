/- A pile: what is open, in a row of its own; contracts of the pile of numbers. A row of tokens of which every list owns its memory: marks in it, set and held. A copy of attrs, in memory of its own. -/
import Derived.Test.YtmghipjpgoghlaaGreatM8
import Derived.Test.YtmghipjpgoghlaaGreatM3
import Derived.Deep.QuietTactic
import Derived.BigQuiet
import Derived.Maps.AppendAt
import Derived.Deep.Upon
namespace Go.Proofs.YtmghipjpgoghlaaGreat
open Go.RowKit
set_option linter.unusedVariables false
set_option linter.unusedSimpArgs false

/-- A pile's slice lies in the o-th cell of block g; what it holds lies in a row of its own. -/
structure PileAt (E : TypeId) (s : Nat) (w : World) (B g o : Nat) (cur : Array Value) (T : TypeId) (v : Value) (n : Nat) (cs : List Value) : Prop where
  ge : B ≤ g
  blk : w.heap[g]? = some (.cells cur T (0, 0))
  at_ : cur[o]? = some v
  row : w.ownsRow B E s v n cs
  ne : T ≠ E

theorem PileAt.lt {E s w B g o cur T v n cs} (h : PileAt E s w B g o cur T v n cs) : g < w.heap.size := lt_of_heap h.blk

theorem PileAt.cell {E s w B g o cur T v n cs} (h : PileAt E s w B g o cur T v n cs) : w.cell? ⟨g, o, none⟩ = some v := by
  rw [Lib.cell_of_heap h.blk]
  exact h.at_

theorem PileAt.own_ne {E s w B g o cur T v n cs} (h : PileAt E s w B g o cur T v n cs) : v.ownBlock ≠ some g := by
  intro e
  rcases h.row.2 with ⟨rfl, _⟩ | ⟨b, cap, c, rfl, _, hh, _⟩
  · cases e
  · have : b = g := Option.some.inj e
    subst this
    rw [h.blk] at hh
    injection hh with hh
    injection hh with _ h2 _
    exact h.ne h2

theorem PileAt.below {E s w w' B g o cur T v n cs} (h : PileAt E s w B g o cur T v n cs) (hb : Below w.heap.size w w') : PileAt E s w' B g o cur T v n cs :=
  ⟨h.ge, (hb.block g h.lt).trans h.blk, h.at_, ownsRow_below h.row hb, h.ne⟩

theorem own_less {w : World} {B : Nat} {E : TypeId} {s b n m cap : Nat} {xs : List Value} (h : w.ownsRow B E s (.slice (some ⟨b, 0, none⟩) n cap) n xs) (hm : m ≤ n) : w.ownsRow B E s (.slice (some ⟨b, 0, none⟩) m cap) m (xs.take (m * s)) := by
  rcases h.2 with ⟨e, _⟩ | ⟨g, c, cur, e, h1, h2, h3, h4, h5, h6⟩
  · cases e
  · injection e with e1 e2 e3
    injection e1 with e1
    injection e1 with e1 _ _
    subst e1 e3
    have hms : m * s ≤ n * s := Nat.mul_le_mul_right _ hm
    refine ⟨by rw [List.length_take, h.1]; omega, .inr ⟨b, cap, cur, rfl, h1, h2, by omega, h4, h5, ?_⟩⟩
    rw [← h6, List.take_take]
    congr 1
    omega

/-- What is set in a block that the row does not lie in. -/
theorem own_set {w : World} {B : Nat} {E : TypeId} {s n : Nat} {v : Value} {xs : List Value} (h : w.ownsRow B E s v n xs) {g : Nat} (hg : v.ownBlock ≠ some g) (o : Nat) (u : Value) : (w.setCell ⟨g, o, none⟩ u).ownsRow B E s v n xs :=
  h.kept (Lib.grownBy_setCell w g o u) (.inr hg)

/-- The pile's slice set anew. -/
theorem PileAt.mk_set {E : TypeId} {s : Nat} {w : World} {B g o : Nat} {cur : Array Value} {T : TypeId} {v : Value} (hg : B ≤ g) (hb : w.heap[g]? = some (.cells cur T (0, 0))) (ha : cur[o]? = some v) (hT : T ≠ E) {u : Value} {m : Nat} {ds : List Value} (hu : w.ownsRow B E s u m ds) (hn : u.ownBlock ≠ some g) : PileAt E s (w.setCell ⟨g, o, none⟩ u) B g o (cur.setIfInBounds o u) T u m ds := by
  refine ⟨hg, heap_setCell_same w g o cur T u hb, ?_, own_set hu hn o u, hT⟩
  have : o < cur.size := (Array.getElem?_eq_some_iff.1 ha).1
  simp [this]

theorem PileAt.set {E s w B g o cur T v n cs} (h : PileAt E s w B g o cur T v n cs) {u : Value} {m : Nat} {ds : List Value} (hu : w.ownsRow B E s u m ds) (hg : u.ownBlock ≠ some g) : PileAt E s (w.setCell ⟨g, o, none⟩ u) B g o (cur.setIfInBounds o u) T u m ds :=
  PileAt.mk_set h.ge h.blk h.at_ h.ne hu hg

theorem PileAt.drew {E s w B g o cur T v n cs} (h : PileAt E s w B g o cur T v n cs) : PileAt E s w.drew B g o cur T v n cs := ⟨h.ge, h.blk, h.at_, h.row.drew, h.ne⟩

theorem KeepB.drew {p : Nat → Prop} {w w' : World} (h : KeepB p w w') : KeepB p w w'.drew := ⟨h.os, h.tape, h.output, h.size, h.block⟩

theorem PileAt.keep {E s w w' B g o cur T v n cs x} (h : PileAt E s w B g o cur T v n cs) (hk : KeepB (fun k => k = x) w w') (h1 : g ≠ x) (h2 : v.ownBlock ≠ some x) : PileAt E s w' B g o cur T v n cs :=
  ⟨h.ge, (hk.block g h.lt h1).trans h.blk, h.at_, h.row.kept (row := some x) ⟨hk.os, hk.tape, hk.output, hk.size, fun k hk1 hk2 => hk.block k hk1 (fun e => hk2 (by rw [e]))⟩ (.inr h2), h.ne⟩

def lenV : Value → Nat
  | .slice _ n _ => n
  | _ => 0

theorem own_len {w : World} {B : Nat} {E : TypeId} {s n : Nat} {v : Value} {xs : List Value} (h : w.ownsRow B E s v n xs) : ∃ a c, v = .slice a n c := by
  rcases h.2 with ⟨rfl, rfl⟩ | ⟨g, cap, cur, rfl, _⟩
  · exact ⟨none, 0, rfl⟩
  · exact ⟨_, _, rfl⟩

theorem own_pos {w : World} {B : Nat} {E : TypeId} {s n : Nat} {v : Value} {xs : List Value} (h : w.ownsRow B E s v n xs) (hn : 0 < n) : ∃ b c, v = .slice (some ⟨b, 0, none⟩) n c ∧ b < w.heap.size ∧ B ≤ b ∧ n ≤ c ∧ ∀ j, j < n * s → w.cell? ⟨b, j, none⟩ = xs[j]? := by
  rcases h.2 with ⟨rfl, rfl⟩ | ⟨g, cap, cur, rfl, hB, hh, hc, _, hs, ht⟩
  · omega
  · refine ⟨g, cap, rfl, lt_of_heap hh, hB, hc, fun j hj => ?_⟩
    rw [Lib.cell_of_heap hh, ← ht, List.getElem?_take, if_pos hj, Array.getElem?_toList]

/-- Numbers, the top first. -/
abbrev PileI (w : World) (B g o : Nat) (cur : Array Value) (T : TypeId) (v : Value) (L : List Nat) : Prop := PileAt 2 1 w B g o cur T v L.length (intC L.reverse)

theorem rev_last (x : Nat) (L : List Nat) : (intC (x :: L).reverse)[L.length]? = some (.int .i64 (x : Int)) := by
  rw [List.reverse_cons, intC_app, List.getElem?_append_right (by rw [intC_len, List.length_reverse]; exact Nat.le_refl _)]
  simp [intC]

theorem rev_take (x : Nat) (L : List Nat) : (intC (x :: L).reverse).take (L.length * 1) = intC L.reverse := by
  rw [List.reverse_cons, intC_app, List.take_left' (by rw [intC_len, List.length_reverse, Nat.mul_one])]

theorem PileAt.less {w : World} {B g o b c n : Nat} {cur : Array Value} {T : TypeId} {x : Nat} {L : List Nat} (h : PileI w B g o cur T (.slice (some ⟨b, 0, none⟩) (x :: L).length c) (x :: L)) (hn : L.length = n) :
    PileI (w.setCell ⟨g, o, none⟩ (.slice (some ⟨b, 0, none⟩) n c)) B g o (cur.setIfInBounds o (.slice (some ⟨b, 0, none⟩) n c)) T (.slice (some ⟨b, 0, none⟩) n c) L := by
  subst hn
  have h1 := own_less (m := L.length) h.row (by rw [List.length_cons]; omega)
  rw [rev_take] at h1
  exact h.set h1 h.own_ne

set_option maxHeartbeats 1000000 in
theorem cPiSize (B g o : Nat) (cur : Array Value) (T : TypeId) (v : Value) (L : List Nat) (w : World) (h : PileI w B g o cur T v L) :
    Calls Tryz.prog 103 #[.pointer (some ⟨g, o, none⟩)] w fun e w' => e = .returned (.int .i64 (L.length : Nat)) ∧ w' = w := by
  have c0 := h.cell
  obtain ⟨a, c, rfl⟩ := own_len h.row
  clear h
  generalize L.length = n at *
  go_enter Tryz.func103, Tryz.ntmps103
  go_wp2
  go_ret
  exact ⟨rfl, rfl⟩

set_option maxHeartbeats 1000000 in
theorem cPiTop0 (B g o : Nat) (cur : Array Value) (T : TypeId) (v : Value) (w : World) (h : PileI w B g o cur T v []) :
    Calls Tryz.prog 135 #[.pointer (some ⟨g, o, none⟩)] w fun e w' => e = .returned (.tuple #[.int .i64 0, .bool false]) ∧ Below w.heap.size w w' := by
  have c0 := h.cell
  obtain ⟨a, c, rfl⟩ := own_len h.row
  clear h
  go_enter Tryz.func135, Tryz.ntmps135
  go_wp2
  go_ret2
  exact ⟨rfl, Below.refl _ _⟩

set_option maxHeartbeats 1000000 in
theorem cPiTop (B g o : Nat) (cur : Array Value) (T : TypeId) (v : Value) (x : Nat) (L : List Nat) (w : World) (h : PileI w B g o cur T v (x :: L)) (hn : L.length ≤ 1048576) :
    Calls Tryz.prog 135 #[.pointer (some ⟨g, o, none⟩)] w fun e w' => e = .returned (.tuple #[.int .i64 (x : Int), .bool true]) ∧ Below w.heap.size w w' := by
  have c0 := h.cell
  obtain ⟨b, c, rfl, hb, _, hc, hcs⟩ := own_pos h.row (Nat.succ_pos _)
  have c1 := hcs L.length (by rw [List.length_cons]; omega)
  rw [rev_last] at c1
  clear h hcs
  rw [List.length_cons] at c0 hc
  obtain ⟨n, hnn⟩ : ∃ n, L.length = n := ⟨_, rfl⟩
  rw [hnn] at c0 c1 hn hc
  clear hnn
  have hq : ((n + 1 : Nat) : Int) = (n : Int) + 1 := by omega
  have hd : (((n : Int) + 1) == 0) = false := by simp; omega
  go_enter Tryz.func135, Tryz.ntmps135
  go_wp2_with fail
  go_quiet (fail)
  go_wp2_with fail
  go_ret2
  exact ⟨rfl, below_drewN (Below.refl _ _) _⟩

end Go.Proofs.YtmghipjpgoghlaaGreat

namespace Go.Proofs.YtmghipjpgoghlaaGreat
open Go.RowKit
set_option linter.unusedVariables false
set_option linter.unusedSimpArgs false

/-- Where a row of tokens and their attrs lie. -/
structure Shape where
  R : Nat
  o : Nat
  n : Nat
  len : Nat → Nat
  aa : Nat → Option Addr
  A : Nat → Nat
  O : Nat → Nat
  C : Nat → Nat

/-- From block B on; no two lists in one block. -/
structure Shape.Ok (s : Shape) (B : Nat) : Prop where
  row : B ≤ s.R
  at_ : ∀ j, j < s.n → 0 < s.len j → s.aa j = some ⟨s.A j, s.O j, none⟩ ∧ B ≤ s.A j ∧ ¬ s.A j = s.R
  apart : ∀ i j, i < s.n → j < s.n → ¬ i = j → 0 < s.len i → 0 < s.len j → ¬ s.A i = s.A j

/-- The blocks of the row and of its lists. -/
def Shape.Has (s : Shape) (b : Nat) : Prop := b = s.R ∨ ∃ j, j < s.n ∧ 0 < s.len j ∧ b = s.A j

theorem Shape.Ok.has {s : Shape} {B : Nat} (h : s.Ok B) {b : Nat} (hb : s.Has b) : B ≤ b := by
  rcases hb with rfl | ⟨j, hj, hl, rfl⟩
  · exact h.row
  · exact (h.at_ j hj hl).2.1

structure TkCells (cur : Array Value) (p : Nat) (t : Tk) (aa : Option Addr) (cap : Nat) : Prop where
  c0 : cur[p]? = some (.int .i64 t.kind)
  c1 : cur[p + 1]? = some (.string t.name)
  c2 : cur[p + 2]? = some (.slice aa t.attrs.length cap)
  c3 : cur[p + 3]? = some (.string t.text)

/-- The tokens f lie there. -/
structure Shape.Holds (s : Shape) (w : World) (f : Nat → Tk) : Prop where
  row : ∃ cur, w.heap[s.R]? = some (.cells cur 127 (0, 0)) ∧ ∀ j, j < s.n → TkCells cur (s.o + j * 4) (f j) (s.aa j) (s.C j)
  len : ∀ j, j < s.n → (f j).attrs.length = s.len j
  ats : ∀ j, j < s.n → 0 < s.len j → ∃ cu, w.heap[s.A j]? = some (.cells cu 42 (0, 0)) ∧ AtCells cu (s.O j) (f j).attrs

theorem Shape.Holds.keep {s : Shape} {w w' : World} {f : Nat → Tk} {p : Nat → Prop} (h : s.Holds w f) (k : KeepB p w w') (h1 : ¬ p s.R) (h2 : ∀ j, j < s.n → 0 < s.len j → ¬ p (s.A j)) : s.Holds w' f := by
  obtain ⟨cur, hc, hr⟩ := h.row
  refine ⟨⟨cur, (k.block _ (lt_of_heap hc) h1).trans hc, hr⟩, h.len, fun j hj hl => ?_⟩
  obtain ⟨cu, hcu, ha⟩ := h.ats j hj hl
  exact ⟨cu, (k.block _ (lt_of_heap hcu) (h2 j hj hl)).trans hcu, ha⟩
-- over type 127

theorem Shape.Holds.below {s : Shape} {w w' : World} {f : Nat → Tk} (h : s.Holds w f) (k : Below w.heap.size w w') : s.Holds w' f :=
  h.keep (KeepB.of_below (fun _ => False) k) (fun x => x) (fun _ _ _ x => x)
-- over type 127

theorem Shape.Holds.atRow {s : Shape} {w : World} {f : Nat → Tk} {B : Nat} (h : s.Holds w f) (ok : s.Ok B) (j : Nat) (hj : j < s.n) : AtRow w (s.aa j) (f j).attrs := by
  intro m hm
  have hl : 0 < s.len j := by rw [← h.len j hj]; omega
  obtain ⟨cu, hcu, ha⟩ := h.ats j hj hl
  obtain ⟨c1, c2⟩ := ha m hm
  exact ⟨s.A j, s.O j, (ok.at_ j hj hl).1, lt_of_heap hcu, by rw [Lib.cell_of_heap hcu]; exact c1, by rw [Lib.cell_of_heap hcu]; exact c2⟩
-- over type 127

theorem Shape.Holds.tkRow {s : Shape} {w : World} {f : Nat → Tk} {B : Nat} {ts : List Tk} (h : s.Holds w f) (ok : s.Ok B) (hn : ts.length = s.n) (hf : ∀ j (hj : j < ts.length), f j = ts[j]) : TkRow w (some ⟨s.R, s.o, none⟩) ts := by
  intro j hj
  obtain ⟨cur, hc, hr⟩ := h.row
  have hjn : j < s.n := by omega
  have t := hr j hjn
  have ha := h.atRow ok j hjn
  rw [hf j hj] at t ha
  exact ⟨s.R, s.o, s.aa j, s.C j, rfl, lt_of_heap hc, by rw [Lib.cell_of_heap hc]; exact t.c0, by rw [Lib.cell_of_heap hc]; exact t.c1, by rw [Lib.cell_of_heap hc]; exact t.c2, by rw [Lib.cell_of_heap hc]; exact t.c3, ha⟩
-- over type 127

/-- Attrs that bear the marks from k on. -/
def mkAts (k n : Nat) : List At := (List.range n).map fun j => ⟨markS (k + 2 * j), markS (k + 2 * j + 1)⟩

theorem mkAts_len (k n : Nat) : (mkAts k n).length = n := by simp [mkAts]

theorem mkAts_get (k n j : Nat) (h : j < (mkAts k n).length) : (mkAts k n)[j].name = markS (k + 2 * j) ∧ (mkAts k n)[j].value = markS (k + 2 * j + 1) := by
  simp [mkAts]

/-- A token that bears the marks from k on. -/
def mkTk (k n : Nat) : Tk := ⟨k, markS (k + 1), mkAts (k + 2) n, markS (k + 2 + 2 * n)⟩

/-- The first mark of token j. -/
def Shape.K (s : Shape) (k : Nat) : Nat → Nat
  | 0 => k
  | j + 1 => Shape.K s k j + (3 + 2 * s.len j)

theorem Shape.K_le (s : Shape) (k : Nat) : ∀ j m, j ≤ m → s.K k j ≤ s.K k m := by
  intro j m h
  induction m with
  | zero => have : j = 0 := by omega
            subst this; exact Nat.le_refl _
  | succ m ih =>
    rcases Nat.lt_or_eq_of_le h with h' | h'
    · have := ih (by omega)
      show s.K k j ≤ s.K k m + (3 + 2 * s.len m)
      omega
    · subst h'; exact Nat.le_refl _

theorem marksA_cells {cu : Array Value} {o n k : Nat} (h : MarksA cu o n k) : AtCells cu o (mkAts k n) := by
  intro m hm
  obtain ⟨h1, h2⟩ := mkAts_get k n m hm
  rw [mkAts_len] at hm
  rw [h1, h2]
  exact h m hm

end Go.Proofs.YtmghipjpgoghlaaGreat

namespace Go.Proofs.YtmghipjpgoghlaaGreat
open Go.RowKit
set_option linter.unusedVariables false
set_option linter.unusedSimpArgs false

theorem add_plainW (b o j : Nat) : (⟨b, o, none⟩ : Addr).add j = ⟨b, o + j, none⟩ := by unfold Addr.add; split <;> simp_all

/-- append of nothing. -/
theorem wpL_none {P : Program} (w : World) {ops : Array Oper} {rest : List Oper} {o : Oper} {a : Act} {Q : Exit → Act → World → Prop} (hgd : o.guard = none) (s x : Operand) (t e : TypeId) (i : TypeInfo)
    (ho : o.op = .call { callee := .builtin .append, args := #[s, x], argTypes := #[t, t] }) (ht : P.underlying t = some (.slice e)) (hi : P.info? e = some i)
    (b : Option Addr) (n c : Nat) (hs : a.eval s = .slice b n c) (hle : n ≤ c) (ax : Option Addr) (cx : Nat) (hx : a.eval x = .slice ax 0 cx)
    (h : wpList P ops Q rest (a.put o.dst (.slice b n c)) w) : wpList P ops Q (o :: rest) a w := by
  refine wpList_plain hgd fun K hK => ?_
  have hsrc : Src P i.size t (.slice ax 0 cx) 0 [] w := by
    cases ax with
    | none => exact Src.ofNil w ht cx
    | some ad => exact Src.ofSlice w ht ad 0 cx [] (by simp) (fun j u h => by simp at h) (fun u h => by cases h)
  have hr := run_append_nothing (P := P) w t t o.type e i ht hi b n c hle _ hsrc
  unfold Oper.wp execOp
  simp only [ho, resolve, invoke, builtin, Sem.run_bind, Sem.run_pure, Result.andThen_ok, List.map_toArray, List.map_cons, List.map_nil, hs, hx, hr]
  exact hK _ _ h

/-- Attrs as cells. -/
def atC (l : List At) : List Value := l.flatMap fun x => [.string x.name, .string x.value]

theorem atC_len (l : List At) : (atC l).length = l.length * 2 := by
  induction l with
  | nil => rfl
  | cons x l ih => show (atC l).length + 2 = _; rw [ih, List.length_cons]; omega

theorem atC_get (l : List At) (j : Nat) (h : j < l.length) : (atC l)[j * 2]? = some (.string l[j].name) ∧ (atC l)[j * 2 + 1]? = some (.string l[j].value) := by
  induction l generalizing j with
  | nil => simp at h
  | cons x l ih =>
    have e : atC (x :: l) = .string x.name :: .string x.value :: atC l := rfl
    rw [e]
    match j with
    | 0 => exact ⟨rfl, rfl⟩
    | j + 1 =>
      have := ih j (by simpa using h)
      rw [show (j + 1) * 2 = j * 2 + 1 + 1 by omega]
      exact this

theorem atC_one (l : List At) : ∀ u ∈ atC l, u.oneCell' = true := by
  intro u hu
  unfold atC at hu
  obtain ⟨x, _, hx⟩ := List.mem_flatMap.1 hu
  simp at hx
  rcases hx with rfl | rfl <;> rfl

theorem atC_row {w : World} {b o : Nat} {l : List At} (h : AtRow w (some ⟨b, o, none⟩) l) : ∀ j u, (atC l)[j]? = some u → w.cell? ((⟨b, o, none⟩ : Addr).add j) = some u := by
  intro j u hj
  have hlt : j < l.length * 2 := by
    rw [← atC_len]
    exact (List.getElem?_eq_some_iff.1 hj).1
  rw [add_plainW]
  obtain ⟨b', o', e, _, c1, c2⟩ := h (j / 2) (by omega)
  cases e
  obtain ⟨g1, g2⟩ := atC_get l (j / 2) (by omega)
  rcases Nat.mod_two_eq_zero_or_one j with h2 | h2
  · have e2 : j / 2 * 2 = j := by omega
    rw [e2] at g1 c1
    rw [g1] at hj
    cases hj
    exact c1
  · have e2 : j / 2 * 2 + 1 = j := by omega
    rw [Nat.add_assoc, e2] at c2
    rw [e2] at g2
    rw [g2] at hj
    cases hj
    exact c2

theorem infoAtW : (Tryz.prog.info? 42).map (fun i => (i.zero, i.size, i.bytes)) = some (some (.agg #[.string ⟨#[]⟩, .string ⟨#[]⟩]), 2, 32) := by kernel_rfl

/-- A list of attrs in a block of its own, from B on. -/
def OwnAts (w : World) (B : Nat) (a : Option Addr) (l : List At) : Prop := 0 < l.length → ∃ g o cu, a = some ⟨g, o, none⟩ ∧ B ≤ g ∧ w.heap[g]? = some (.cells cu 42 (0, 0)) ∧ AtCells cu o l

theorem OwnAts.atRow {w : World} {B : Nat} {a : Option Addr} {l : List At} (h : OwnAts w B a l) : AtRow w a l := by
  intro j hj
  obtain ⟨g, o, cu, e, _, hh, hc⟩ := h (by omega)
  obtain ⟨c1, c2⟩ := hc j hj
  exact ⟨g, o, e, lt_of_heap hh, by rw [Lib.cell_of_heap hh]; exact c1, by rw [Lib.cell_of_heap hh]; exact c2⟩

theorem OwnAts.below {w w' : World} {B : Nat} {a : Option Addr} {l : List At} (h : OwnAts w B a l) (hb : Below w.heap.size w w') : OwnAts w' B a l := by
  intro hl
  obtain ⟨g, o, cu, e, hB, hh, hc⟩ := h hl
  exact ⟨g, o, cu, e, hB, (hb.block g (lt_of_heap hh)).trans hh, hc⟩

set_option maxHeartbeats 1000000 in
theorem cCopyS (a : Option Addr) (cap : Nat) (l : List At) (w : World) (hR : AtRow w a l) (hn : l.length ≤ 1048576) :
    Calls Tryz.prog 95 #[.slice a l.length cap] w fun e w' => ∃ a' c', e = .returned (.slice a' l.length c') ∧ OwnAts w' w.heap.size a' l ∧ Below w.heap.size w w' := by
  obtain ⟨i0, hi, hz0, hz1, hz2⟩ := info_parts infoAtW
  have HB0 := hid ((Below.refl w.heap.size w).alloc (Nat.le_refl _) (.cells #[] 42))
  by_cases h0 : l.length = 0
  · have : l = [] := List.eq_nil_of_length_eq_zero h0
    subst this
    go_enter Tryz.func95, Tryz.ntmps95
    go_wp2_with (at_builtin; refine wpL_none _ rfl _ _ 31 42 i0 rfl Tryz.underlying31 hi _ _ _ rfl (Nat.le_refl _) a cap rfl ?_)
    go_ret
    exact ⟨_, _, rfl, fun h => absurd h (by simp), HB0.out⟩
  · obtain ⟨b, o, rfl, hb, hcc⟩ := hR 0 (by omega)
    clear hcc
    have HR := hid (hR.below HB0.out)
    have HO : Hid ((w.alloc (.cells #[] 42)).ownsRow w.heap.size 42 2 (.slice (some ⟨w.heap.size, 0, none⟩) 0 0) 0 []) :=
      ⟨rfl, .inr ⟨w.heap.size, 0, #[], rfl, Nat.le_refl _, heap_alloc_new _ _, Nat.le_refl _, Nat.zero_le _, rfl, rfl⟩⟩
    have HN := hid h0
    clear hR h0
    go_enter Tryz.func95, Tryz.ntmps95
    go_wp2_with (at_builtin; refine wpList_append_own_at _ rfl _ _ 31 rfl w.heap.size 42 i0 _ 2 32 Tryz.underlying31 hi hz0 hz1 hz2 rfl (by decide) _ 0 [] rfl HO.out ⟨b, o, none⟩ l.length cap (atC l) rfl (atC_len l) (atC_row HR.out) (atC_one l) ?c3 ?c4 ?c5 ?_)
    case c3 => unfold maxLen; omega
    case c4 => omega
    case c5 => simp
    intro v' w2 hown hgrow _ _
    have HB2 := hid (HB0.out.grown hgrow (by simp) (fun g hg => (HO.out.lt g hg).1))
    rcases hown.2 with ⟨_, h'⟩ | ⟨g, cp, cur, rfl, hg, hh, hn', hc, hs, ht⟩
    · exact absurd h' HN.out
    · have HA := hid (show OwnAts w2 w.heap.size (some ⟨g, 0, none⟩) l from fun _ => ⟨g, 0, cur, rfl, hg, hh, fun j hj => by
        obtain ⟨g1, g2⟩ := atC_get l j hj
        rw [← ht, List.getElem?_take] at g1 g2
        refine ⟨?_, ?_⟩
        · rw [Nat.zero_add, ← Array.getElem?_toList]
          split at g1
          · exact g1
          · cases g1
        · rw [Nat.zero_add, ← Array.getElem?_toList]
          split at g2
          · exact g2
          · cases g2⟩)
      clear hown hgrow hh hc hs ht hg
      go_wp2
      go_ret
      exact ⟨_, _, rfl, HA.out, HB2.out⟩

end Go.Proofs.YtmghipjpgoghlaaGreat
