/- A pile: what is open, in a row of its own; contracts of the pile of numbers. -/
import Derived.Test.YtlghhemmmjahnaaWKidT
import Derived.Deep.QuietTactic
import Derived.BigQuiet
namespace Go.Proofs.Ytlghhemmmjahnaa
open Go.RowKit
set_option linter.unusedVariables false
set_option linter.unusedSimpArgs false

/-- A pile's slice lies in the o-th cell of block g; what it holds lies in a row of its own. -/
structure PileAt (E : TypeId) (s : Nat) (w : World) (B g o : Nat) (cur : Array Value) (T : TypeId) (v : Value) (n : Nat) (cs : List Value) : Prop where
  ge : B ≤ g
  blk : w.heap[g]? = some (.cells cur T (0, 0))
  at_ : cur[o]? = some v
  row : w.ownsRow B E s v n cs
  ne : T ≠ E

theorem PileAt.lt {E s w B g o cur T v n cs} (h : PileAt E s w B g o cur T v n cs) : g < w.heap.size := lt_of_heap h.blk

theorem PileAt.cell {E s w B g o cur T v n cs} (h : PileAt E s w B g o cur T v n cs) : w.cell? ⟨g, o, none⟩ = some v := by
  rw [Lib.cell_of_heap h.blk]
  exact h.at_

theorem PileAt.own_ne {E s w B g o cur T v n cs} (h : PileAt E s w B g o cur T v n cs) : v.ownBlock ≠ some g := by
  intro e
  rcases h.row.2 with ⟨rfl, _⟩ | ⟨b, cap, c, rfl, _, hh, _⟩
  · cases e
  · have : b = g := Option.some.inj e
    subst this
    rw [h.blk] at hh
    injection hh with hh
    injection hh with _ h2 _
    exact h.ne h2

theorem PileAt.below {E s w w' B g o cur T v n cs} (h : PileAt E s w B g o cur T v n cs) (hb : Below w.heap.size w w') : PileAt E s w' B g o cur T v n cs :=
  ⟨h.ge, (hb.block g h.lt).trans h.blk, h.at_, ownsRow_below h.row hb, h.ne⟩

theorem own_less {w : World} {B : Nat} {E : TypeId} {s b n m cap : Nat} {xs : List Value} (h : w.ownsRow B E s (.slice (some ⟨b, 0, none⟩) n cap) n xs) (hm : m ≤ n) : w.ownsRow B E s (.slice (some ⟨b, 0, none⟩) m cap) m (xs.take (m * s)) := by
  rcases h.2 with ⟨e, _⟩ | ⟨g, c, cur, e, h1, h2, h3, h4, h5, h6⟩
  · cases e
  · injection e with e1 e2 e3
    injection e1 with e1
    injection e1 with e1 _ _
    subst e1 e3
    have hms : m * s ≤ n * s := Nat.mul_le_mul_right _ hm
    refine ⟨by rw [List.length_take, h.1]; omega, .inr ⟨b, cap, cur, rfl, h1, h2, by omega, h4, h5, ?_⟩⟩
    rw [← h6, List.take_take]
    congr 1
    omega

/-- What is set in a block that the row does not lie in. -/
theorem own_set {w : World} {B : Nat} {E : TypeId} {s n : Nat} {v : Value} {xs : List Value} (h : w.ownsRow B E s v n xs) {g : Nat} (hg : v.ownBlock ≠ some g) (o : Nat) (u : Value) : (w.setCell ⟨g, o, none⟩ u).ownsRow B E s v n xs :=
  h.kept (Lib.grownBy_setCell w g o u) (.inr hg)

/-- The pile's slice set anew. -/
theorem PileAt.mk_set {E : TypeId} {s : Nat} {w : World} {B g o : Nat} {cur : Array Value} {T : TypeId} {v : Value} (hg : B ≤ g) (hb : w.heap[g]? = some (.cells cur T (0, 0))) (ha : cur[o]? = some v) (hT : T ≠ E) {u : Value} {m : Nat} {ds : List Value} (hu : w.ownsRow B E s u m ds) (hn : u.ownBlock ≠ some g) : PileAt E s (w.setCell ⟨g, o, none⟩ u) B g o (cur.setIfInBounds o u) T u m ds := by
  refine ⟨hg, heap_setCell_same w g o cur T u hb, ?_, own_set hu hn o u, hT⟩
  have : o < cur.size := (Array.getElem?_eq_some_iff.1 ha).1
  simp [this]

theorem PileAt.set {E s w B g o cur T v n cs} (h : PileAt E s w B g o cur T v n cs) {u : Value} {m : Nat} {ds : List Value} (hu : w.ownsRow B E s u m ds) (hg : u.ownBlock ≠ some g) : PileAt E s (w.setCell ⟨g, o, none⟩ u) B g o (cur.setIfInBounds o u) T u m ds :=
  PileAt.mk_set h.ge h.blk h.at_ h.ne hu hg

theorem PileAt.drew {E s w B g o cur T v n cs} (h : PileAt E s w B g o cur T v n cs) : PileAt E s w.drew B g o cur T v n cs := ⟨h.ge, h.blk, h.at_, h.row.drew, h.ne⟩

theorem KeepB.drew {p : Nat → Prop} {w w' : World} (h : KeepB p w w') : KeepB p w w'.drew := ⟨h.os, h.tape, h.output, h.size, h.block⟩

theorem PileAt.keep {E s w w' B g o cur T v n cs x} (h : PileAt E s w B g o cur T v n cs) (hk : KeepB (fun k => k = x) w w') (h1 : g ≠ x) (h2 : v.ownBlock ≠ some x) : PileAt E s w' B g o cur T v n cs :=
  ⟨h.ge, (hk.block g h.lt h1).trans h.blk, h.at_, h.row.kept (row := some x) ⟨hk.os, hk.tape, hk.output, hk.size, fun k hk1 hk2 => hk.block k hk1 (fun e => hk2 (by rw [e]))⟩ (.inr h2), h.ne⟩

def lenV : Value → Nat
  | .slice _ n _ => n
  | _ => 0

theorem own_len {w : World} {B : Nat} {E : TypeId} {s n : Nat} {v : Value} {xs : List Value} (h : w.ownsRow B E s v n xs) : ∃ a c, v = .slice a n c := by
  rcases h.2 with ⟨rfl, rfl⟩ | ⟨g, cap, cur, rfl, _⟩
  · exact ⟨none, 0, rfl⟩
  · exact ⟨_, _, rfl⟩

theorem own_pos {w : World} {B : Nat} {E : TypeId} {s n : Nat} {v : Value} {xs : List Value} (h : w.ownsRow B E s v n xs) (hn : 0 < n) : ∃ b c, v = .slice (some ⟨b, 0, none⟩) n c ∧ b < w.heap.size ∧ B ≤ b ∧ n ≤ c ∧ ∀ j, j < n * s → w.cell? ⟨b, j, none⟩ = xs[j]? := by
  rcases h.2 with ⟨rfl, rfl⟩ | ⟨g, cap, cur, rfl, hB, hh, hc, _, hs, ht⟩
  · omega
  · refine ⟨g, cap, rfl, lt_of_heap hh, hB, hc, fun j hj => ?_⟩
    rw [Lib.cell_of_heap hh, ← ht, List.getElem?_take, if_pos hj, Array.getElem?_toList]

/-- Numbers, the top first. -/
abbrev PileI (w : World) (B g o : Nat) (cur : Array Value) (T : TypeId) (v : Value) (L : List Nat) : Prop := PileAt 2 1 w B g o cur T v L.length (intC L.reverse)

theorem rev_last (x : Nat) (L : List Nat) : (intC (x :: L).reverse)[L.length]? = some (.int .i64 (x : Int)) := by
  rw [List.reverse_cons, intC_app, List.getElem?_append_right (by rw [intC_len, List.length_reverse]; exact Nat.le_refl _)]
  simp [intC]

theorem rev_take (x : Nat) (L : List Nat) : (intC (x :: L).reverse).take (L.length * 1) = intC L.reverse := by
  rw [List.reverse_cons, intC_app, List.take_left' (by rw [intC_len, List.length_reverse, Nat.mul_one])]

theorem PileAt.less {w : World} {B g o b c n : Nat} {cur : Array Value} {T : TypeId} {x : Nat} {L : List Nat} (h : PileI w B g o cur T (.slice (some ⟨b, 0, none⟩) (x :: L).length c) (x :: L)) (hn : L.length = n) :
    PileI (w.setCell ⟨g, o, none⟩ (.slice (some ⟨b, 0, none⟩) n c)) B g o (cur.setIfInBounds o (.slice (some ⟨b, 0, none⟩) n c)) T (.slice (some ⟨b, 0, none⟩) n c) L := by
  subst hn
  have h1 := own_less (m := L.length) h.row (by rw [List.length_cons]; omega)
  rw [rev_take] at h1
  exact h.set h1 h.own_ne

set_option maxHeartbeats 1000000 in
theorem cPiSize (B g o : Nat) (cur : Array Value) (T : TypeId) (v : Value) (L : List Nat) (w : World) (h : PileI w B g o cur T v L) :
    Calls Try.prog 58 #[.pointer (some ⟨g, o, none⟩)] w fun e w' => e = .returned (.int .i64 (L.length : Nat)) ∧ w' = w := by
  have c0 := h.cell
  obtain ⟨a, c, rfl⟩ := own_len h.row
  clear h
  generalize L.length = n at *
  go_enter Try.func58, Try.ntmps58
  go_wp2
  go_ret
  exact ⟨rfl, rfl⟩

set_option maxHeartbeats 1000000 in
theorem cPiTop0 (B g o : Nat) (cur : Array Value) (T : TypeId) (v : Value) (w : World) (h : PileI w B g o cur T v []) :
    Calls Try.prog 81 #[.pointer (some ⟨g, o, none⟩)] w fun e w' => e = .returned (.tuple #[.int .i64 0, .bool false]) ∧ Below w.heap.size w w' := by
  have c0 := h.cell
  obtain ⟨a, c, rfl⟩ := own_len h.row
  clear h
  go_enter Try.func81, Try.ntmps81
  go_wp2
  go_ret2
  exact ⟨rfl, Below.refl _ _⟩

set_option maxHeartbeats 1000000 in
theorem cPiTop (B g o : Nat) (cur : Array Value) (T : TypeId) (v : Value) (x : Nat) (L : List Nat) (w : World) (h : PileI w B g o cur T v (x :: L)) (hn : L.length ≤ 1048576) :
    Calls Try.prog 81 #[.pointer (some ⟨g, o, none⟩)] w fun e w' => e = .returned (.tuple #[.int .i64 (x : Int), .bool true]) ∧ Below w.heap.size w w' := by
  have c0 := h.cell
  obtain ⟨b, c, rfl, hb, _, hc, hcs⟩ := own_pos h.row (Nat.succ_pos _)
  have c1 := hcs L.length (by rw [List.length_cons]; omega)
  rw [rev_last] at c1
  clear h hcs
  rw [List.length_cons] at c0 hc
  obtain ⟨n, hnn⟩ : ∃ n, L.length = n := ⟨_, rfl⟩
  rw [hnn] at c0 c1 hn hc
  clear hnn
  have hq : ((n + 1 : Nat) : Int) = (n : Int) + 1 := by omega
  have hd : (((n : Int) + 1) == 0) = false := by simp; omega
  go_enter Try.func81, Try.ntmps81
  go_wp2_with fail
  go_quiet (fail)
  go_wp2_with fail
  go_ret2
  exact ⟨rfl, below_drewN (Below.refl _ _) _⟩

end Go.Proofs.Ytlghhemmmjahnaa
