/- A pile: what is open, in a row of its own; contracts of the pile of numbers. Rows of the call's own: append within a region that draws, what stays where another row grows. Rows of texts and of pairs of texts, read; what is put together anew of them. -/
import Derived.Test.YtkejmifkjgpdjaaGreatM8
import Derived.Test.YtkejmifkjgpdjaaGreatM10
import Derived.Test.YtkejmifkjgpdjaaGreatM14
import Derived.Deep.QuietTactic
import Derived.BigQuiet
import Derived.Maps.AppendAt
import Derived.Deep.Upon
namespace Go.Proofs.YtkejmifkjgpdjaaGreat
open Go.RowKit
set_option linter.unusedVariables false
set_option linter.unusedSimpArgs false

/-- A pile's slice lies in the o-th cell of block g; what it holds lies in a row of its own. -/
structure PileAt (E : TypeId) (s : Nat) (w : World) (B g o : Nat) (cur : Array Value) (T : TypeId) (v : Value) (n : Nat) (cs : List Value) : Prop where
  ge : B ≤ g
  blk : w.heap[g]? = some (.cells cur T (0, 0))
  at_ : cur[o]? = some v
  row : w.ownsRow B E s v n cs
  ne : T ≠ E

theorem PileAt.lt {E s w B g o cur T v n cs} (h : PileAt E s w B g o cur T v n cs) : g < w.heap.size := lt_of_heap h.blk

theorem PileAt.cell {E s w B g o cur T v n cs} (h : PileAt E s w B g o cur T v n cs) : w.cell? ⟨g, o, none⟩ = some v := by
  rw [Lib.cell_of_heap h.blk]
  exact h.at_

theorem PileAt.own_ne {E s w B g o cur T v n cs} (h : PileAt E s w B g o cur T v n cs) : v.ownBlock ≠ some g := by
  intro e
  rcases h.row.2 with ⟨rfl, _⟩ | ⟨b, cap, c, rfl, _, hh, _⟩
  · cases e
  · have : b = g := Option.some.inj e
    subst this
    rw [h.blk] at hh
    injection hh with hh
    injection hh with _ h2 _
    exact h.ne h2

theorem PileAt.below {E s w w' B g o cur T v n cs} (h : PileAt E s w B g o cur T v n cs) (hb : Below w.heap.size w w') : PileAt E s w' B g o cur T v n cs :=
  ⟨h.ge, (hb.block g h.lt).trans h.blk, h.at_, ownsRow_below h.row hb, h.ne⟩

theorem own_less {w : World} {B : Nat} {E : TypeId} {s b n m cap : Nat} {xs : List Value} (h : w.ownsRow B E s (.slice (some ⟨b, 0, none⟩) n cap) n xs) (hm : m ≤ n) : w.ownsRow B E s (.slice (some ⟨b, 0, none⟩) m cap) m (xs.take (m * s)) := by
  rcases h.2 with ⟨e, _⟩ | ⟨g, c, cur, e, h1, h2, h3, h4, h5, h6⟩
  · cases e
  · injection e with e1 e2 e3
    injection e1 with e1
    injection e1 with e1 _ _
    subst e1 e3
    have hms : m * s ≤ n * s := Nat.mul_le_mul_right _ hm
    refine ⟨by rw [List.length_take, h.1]; omega, .inr ⟨b, cap, cur, rfl, h1, h2, by omega, h4, h5, ?_⟩⟩
    rw [← h6, List.take_take]
    congr 1
    omega

/-- What is set in a block that the row does not lie in. -/
theorem own_set {w : World} {B : Nat} {E : TypeId} {s n : Nat} {v : Value} {xs : List Value} (h : w.ownsRow B E s v n xs) {g : Nat} (hg : v.ownBlock ≠ some g) (o : Nat) (u : Value) : (w.setCell ⟨g, o, none⟩ u).ownsRow B E s v n xs :=
  h.kept (Lib.grownBy_setCell w g o u) (.inr hg)

/-- The pile's slice set anew. -/
theorem PileAt.mk_set {E : TypeId} {s : Nat} {w : World} {B g o : Nat} {cur : Array Value} {T : TypeId} {v : Value} (hg : B ≤ g) (hb : w.heap[g]? = some (.cells cur T (0, 0))) (ha : cur[o]? = some v) (hT : T ≠ E) {u : Value} {m : Nat} {ds : List Value} (hu : w.ownsRow B E s u m ds) (hn : u.ownBlock ≠ some g) : PileAt E s (w.setCell ⟨g, o, none⟩ u) B g o (cur.setIfInBounds o u) T u m ds := by
  refine ⟨hg, heap_setCell_same w g o cur T u hb, ?_, own_set hu hn o u, hT⟩
  have : o < cur.size := (Array.getElem?_eq_some_iff.1 ha).1
  simp [this]

theorem PileAt.set {E s w B g o cur T v n cs} (h : PileAt E s w B g o cur T v n cs) {u : Value} {m : Nat} {ds : List Value} (hu : w.ownsRow B E s u m ds) (hg : u.ownBlock ≠ some g) : PileAt E s (w.setCell ⟨g, o, none⟩ u) B g o (cur.setIfInBounds o u) T u m ds :=
  PileAt.mk_set h.ge h.blk h.at_ h.ne hu hg

theorem PileAt.drew {E s w B g o cur T v n cs} (h : PileAt E s w B g o cur T v n cs) : PileAt E s w.drew B g o cur T v n cs := ⟨h.ge, h.blk, h.at_, h.row.drew, h.ne⟩

theorem KeepB.drew {p : Nat → Prop} {w w' : World} (h : KeepB p w w') : KeepB p w w'.drew := ⟨h.os, h.tape, h.output, h.size, h.block⟩

theorem PileAt.keep {E s w w' B g o cur T v n cs x} (h : PileAt E s w B g o cur T v n cs) (hk : KeepB (fun k => k = x) w w') (h1 : g ≠ x) (h2 : v.ownBlock ≠ some x) : PileAt E s w' B g o cur T v n cs :=
  ⟨h.ge, (hk.block g h.lt h1).trans h.blk, h.at_, h.row.kept (row := some x) ⟨hk.os, hk.tape, hk.output, hk.size, fun k hk1 hk2 => hk.block k hk1 (fun e => hk2 (by rw [e]))⟩ (.inr h2), h.ne⟩

def lenV : Value → Nat
  | .slice _ n _ => n
  | _ => 0

theorem own_len {w : World} {B : Nat} {E : TypeId} {s n : Nat} {v : Value} {xs : List Value} (h : w.ownsRow B E s v n xs) : ∃ a c, v = .slice a n c := by
  rcases h.2 with ⟨rfl, rfl⟩ | ⟨g, cap, cur, rfl, _⟩
  · exact ⟨none, 0, rfl⟩
  · exact ⟨_, _, rfl⟩

theorem own_pos {w : World} {B : Nat} {E : TypeId} {s n : Nat} {v : Value} {xs : List Value} (h : w.ownsRow B E s v n xs) (hn : 0 < n) : ∃ b c, v = .slice (some ⟨b, 0, none⟩) n c ∧ b < w.heap.size ∧ B ≤ b ∧ n ≤ c ∧ ∀ j, j < n * s → w.cell? ⟨b, j, none⟩ = xs[j]? := by
  rcases h.2 with ⟨rfl, rfl⟩ | ⟨g, cap, cur, rfl, hB, hh, hc, _, hs, ht⟩
  · omega
  · refine ⟨g, cap, rfl, lt_of_heap hh, hB, hc, fun j hj => ?_⟩
    rw [Lib.cell_of_heap hh, ← ht, List.getElem?_take, if_pos hj, Array.getElem?_toList]

/-- Numbers, the top first. -/
abbrev PileI (w : World) (B g o : Nat) (cur : Array Value) (T : TypeId) (v : Value) (L : List Nat) : Prop := PileAt 2 1 w B g o cur T v L.length (intC L.reverse)

theorem rev_last (x : Nat) (L : List Nat) : (intC (x :: L).reverse)[L.length]? = some (.int .i64 (x : Int)) := by
  rw [List.reverse_cons, intC_app, List.getElem?_append_right (by rw [intC_len, List.length_reverse]; exact Nat.le_refl _)]
  simp [intC]

theorem rev_take (x : Nat) (L : List Nat) : (intC (x :: L).reverse).take (L.length * 1) = intC L.reverse := by
  rw [List.reverse_cons, intC_app, List.take_left' (by rw [intC_len, List.length_reverse, Nat.mul_one])]

theorem PileAt.less {w : World} {B g o b c n : Nat} {cur : Array Value} {T : TypeId} {x : Nat} {L : List Nat} (h : PileI w B g o cur T (.slice (some ⟨b, 0, none⟩) (x :: L).length c) (x :: L)) (hn : L.length = n) :
    PileI (w.setCell ⟨g, o, none⟩ (.slice (some ⟨b, 0, none⟩) n c)) B g o (cur.setIfInBounds o (.slice (some ⟨b, 0, none⟩) n c)) T (.slice (some ⟨b, 0, none⟩) n c) L := by
  subst hn
  have h1 := own_less (m := L.length) h.row (by rw [List.length_cons]; omega)
  rw [rev_take] at h1
  exact h.set h1 h.own_ne

set_option maxHeartbeats 1000000 in
theorem cPiSize (B g o : Nat) (cur : Array Value) (T : TypeId) (v : Value) (L : List Nat) (w : World) (h : PileI w B g o cur T v L) :
    Calls Tryz.prog 77 #[.pointer (some ⟨g, o, none⟩)] w fun e w' => e = .returned (.int .i64 (L.length : Nat)) ∧ w' = w := by
  have c0 := h.cell
  obtain ⟨a, c, rfl⟩ := own_len h.row
  clear h
  generalize L.length = n at *
  go_enter Tryz.func77, Tryz.ntmps77
  go_wp2
  go_ret
  exact ⟨rfl, rfl⟩

set_option maxHeartbeats 1000000 in
theorem cPiTop0 (B g o : Nat) (cur : Array Value) (T : TypeId) (v : Value) (w : World) (h : PileI w B g o cur T v []) :
    Calls Tryz.prog 105 #[.pointer (some ⟨g, o, none⟩)] w fun e w' => e = .returned (.tuple #[.int .i64 0, .bool false]) ∧ Below w.heap.size w w' := by
  have c0 := h.cell
  obtain ⟨a, c, rfl⟩ := own_len h.row
  clear h
  go_enter Tryz.func105, Tryz.ntmps105
  go_wp2
  go_ret2
  exact ⟨rfl, Below.refl _ _⟩

set_option maxHeartbeats 1000000 in
theorem cPiTop (B g o : Nat) (cur : Array Value) (T : TypeId) (v : Value) (x : Nat) (L : List Nat) (w : World) (h : PileI w B g o cur T v (x :: L)) (hn : L.length ≤ 1048576) :
    Calls Tryz.prog 105 #[.pointer (some ⟨g, o, none⟩)] w fun e w' => e = .returned (.tuple #[.int .i64 (x : Int), .bool true]) ∧ Below w.heap.size w w' := by
  have c0 := h.cell
  obtain ⟨b, c, rfl, hb, _, hc, hcs⟩ := own_pos h.row (Nat.succ_pos _)
  have c1 := hcs L.length (by rw [List.length_cons]; omega)
  rw [rev_last] at c1
  clear h hcs
  rw [List.length_cons] at c0 hc
  obtain ⟨n, hnn⟩ : ∃ n, L.length = n := ⟨_, rfl⟩
  rw [hnn] at c0 c1 hn hc
  clear hnn
  have hq : ((n + 1 : Nat) : Int) = (n : Int) + 1 := by omega
  have hd : (((n : Int) + 1) == 0) = false := by simp; omega
  go_enter Tryz.func105, Tryz.ntmps105
  go_wp2_with fail
  go_quiet (fail)
  go_wp2_with fail
  go_ret2
  exact ⟨rfl, below_drewN (Below.refl _ _) _⟩

end Go.Proofs.YtkejmifkjgpdjaaGreat

namespace Go.Proofs.YtkejmifkjgpdjaaGreat
open Go.RowKit
set_option linter.unusedVariables false
set_option linter.unusedSimpArgs false

/-- append onto a row of the call's own, as one step of a region that draws its order. -/
theorem step_app_at {P : Program} {ops : Array Oper} {o : Oper} {a : Act} {w : World} {K : Act → World → Prop} {Q : Exit → Act → World → Prop} {E : Prop}
    (hg : o.guard = none) (s x : Operand) (t : TypeId) (hop : o.op = Op.call { callee := Callee.builtin Builtin.append, args := #[s, x], argTypes := #[t, t] })
    (base : Nat) (e : TypeId) (i : TypeInfo) (z : Value) (size bytes : Nat) (h1 : P.underlying t = some (.slice e)) (h2 : P.info? e = some i) (h3 : i.zero = some z) (h4 : i.size = size) (h5 : i.bytes = bytes) (h6 : z.cells.size = size) (h7 : 0 < size)
    (v : Value) (n : Nat) (xs : List Value) (hs : a.eval s = v) (hown : w.ownsRow base e size v n xs)
    (ad : Addr) (m c : Nat) (news : List Value) (hx : a.eval x = .slice (some ad) m c) (hn : news.length = m * size) (hc : ∀ j u, news[j]? = some u → w.cell? (ad.add j) = some u) (h1c : ∀ u ∈ news, u.oneCell' = true)
    (b1 : n + m ≤ maxLen) (b2 : (n + m) * bytes ≤ 140737488355328) (b3 : base ≤ w.heap.size)
    (hK : ∀ v' w', w'.ownsRow base e size v' (n + m) (xs ++ news) → w.grownBy w' v.ownBlock → (v'.ownBlock = v.ownBlock ∨ v'.ownBlock = some w.heap.size) → K (a.put o.dst v') w') :
    if Region.wanted o (yielded ops a.tmps) = true then Oper.wp P o a w K Q else E := by
  have hw : Region.wanted o (yielded ops a.tmps) = true := by simp [Region.wanted, hg]
  rw [if_pos hw]
  obtain ⟨v', w', hrun, r1, r2, _, r3⟩ := run_append_own_at (P := P) w base t o.type e i z size bytes h1 h2 h3 h4 h5 h6 h7 v n xs hown ad m c news hn hc h1c b1 b2 b3
  unfold Oper.wp
  simp [execOp, hop, resolve, invoke, builtin, hs, hx, hrun, Result.andThen]
  exact hK v' w' r1 r2 r3

theorem two_cells (w : World) (x y : Value) (T : TypeId) : ∀ j u, [x, y][j]? = some u → (w.alloc (.cells #[x, y] T)).cell? ((⟨w.heap.size, 0, none⟩ : Addr).add j) = some u := by
  intro j u hj
  match j, hj with
  | 0, hj => simp at hj; subst hj; simp [Addr.add]
  | 1, hj => simp at hj; subst hj; simp [Addr.add]

theorem box2e {w : World} {g : Nat} {x y : Value} {T : TypeId} (h : w.heap[g]? = some (.cells #[x, y] T (0, 0))) : (w.cell? ⟨g, 0, none⟩ = some x ∧ w.cell? ⟨g, 1, none⟩ = some y) ∧ (w.frozen? ⟨g, 0, none⟩ = false ∧ w.frozen? ⟨g, 1, none⟩ = false) :=
  ⟨⟨by rw [Lib.cell_of_heap h]; rfl, by rw [Lib.cell_of_heap h]; rfl⟩, Lib.frozen_of_heap h 0, Lib.frozen_of_heap h 1⟩

theorem box_set2 {w1 : World} {b : Nat} {x y u v : Value} {T : TypeId} (h : w1.heap[b]? = some (.cells #[x, y] T (0, 0))) : ((w1.setCell ⟨b, 0, none⟩ u).setCell ⟨b, 1, none⟩ v).heap[b]? = some (.cells #[u, v] T (0, 0)) :=
  heap_setCell_same _ _ _ _ _ _ (heap_setCell_same w1 b 0 _ _ u h)

theorem atC_app (l m : List At) : atC (l ++ m) = atC l ++ atC m := by simp [atC]

theorem cell_grownR {w w' : World} {row : Option Nat} (h : w.grownBy w' row) {b o : Nat} {v : Value} (hc : w.cell? ⟨b, o, none⟩ = some v) (hb : b < w.heap.size) (hr : row ≠ some b) : w'.cell? ⟨b, o, none⟩ = some v :=
  (World.cell?_of_block (a := ⟨b, o, none⟩) (h.block b hb (fun e => hr e.symm))).trans hc

theorem blk_grownR {w w' : World} {row : Option Nat} {e T : TypeId} {b : Nat} {c : Array Value} (h : w.heap[b]? = some (.cells c T (0, 0))) (hg : w.grownBy w' row) (hr : ∀ k, row = some k → ∃ c fz, w.heap[k]? = some (.cells c e fz)) (hT : T ≠ e) : w'.heap[b]? = some (.cells c T (0, 0)) :=
  (hg.block b (lt_of_heap h) (fun e1 => by
    obtain ⟨c2, fz2, h3⟩ := hr b e1.symm
    rw [h] at h3
    injection h3 with h3
    injection h3 with _ h4 _
    exact hT h4)).trans h

theorem Nd.Row.keepB {w w' : World} {B : Nat} {v : Value} {es : List Nd.E} {p : Nat → Prop} (h : Nd.Row w B v es) (hk : KeepB p w w') (hp : ∀ k, p k → ∀ c e fz, w.heap[k]? = some (.cells c e fz) → e ≠ 44 ∧ e ≠ 62) : Nd.Row w' B v es := by
  refine ⟨⟨h.own.1, ?_⟩, fun e he => ⟨fun hl => ?_, (h.ats e he).2⟩, h.apart⟩
  · rcases h.own.2 with h' | ⟨g, cap, cur, h1, h2, h3, h4⟩
    · exact .inl h'
    · exact .inr ⟨g, cap, cur, h1, h2, (hk.block g (lt_of_heap h3) (fun hpg => (hp g hpg _ _ _ h3).1 rfl)).trans h3, h4⟩
  · obtain ⟨g, o, cu, e1, e2, e3, e4⟩ := (h.ats e he).1 hl
    exact ⟨g, o, cu, e1, e2, (hk.block g (lt_of_heap e3) (fun hpg => (hp g hpg _ _ _ e3).2 rfl)).trans e3, e4⟩

theorem Nd.Row.kind {w : World} {B : Nat} {v : Value} {es : List Nd.E} (h : Nd.Row w B v es) : ∀ k, v.ownBlock = some k → ∃ c fz, w.heap[k]? = some (.cells c 44 fz) := by
  intro k hk
  rcases h.own.2 with ⟨rfl, _⟩ | ⟨g, cap, cur, rfl, _, hh, _⟩
  · cases hk
  · have : g = k := Option.some.inj hk
    subst this
    exact ⟨_, _, hh⟩

end Go.Proofs.YtkejmifkjgpdjaaGreat

namespace Go.Proofs.YtkejmifkjgpdjaaGreat
open Go.RowKit
set_option linter.unusedVariables false
set_option linter.unusedSimpArgs false

/-- Cells from there on. -/
def CellsAt (w : World) (b o : Nat) (cs : List Value) : Prop := ∀ j u, cs[j]? = some u → w.cell? ⟨b, o + j, none⟩ = some u

/-- A row that can be read: its cells, s for each of n. -/
structure Rd (w : World) (s : Nat) (v : Value) (n : Nat) (cs : List Value) : Prop where
  at_ : ∃ b o c, v = .slice (some ⟨b, o, none⟩) n c ∧ b < w.heap.size ∧ n ≤ c ∧ CellsAt w b o cs
  len : cs.length = n * s

theorem Rd.below {w w' : World} {s n : Nat} {v : Value} {cs : List Value} (h : Rd w s v n cs) (hb : Below w.heap.size w w') : Rd w' s v n cs := by
  obtain ⟨b, o, c, e1, e2, e3, e4⟩ := h.at_
  exact ⟨⟨b, o, c, e1, Nat.lt_of_lt_of_le e2 hb.size, e3, fun j u hj => (hb.cell (p := ⟨b, o + j, none⟩) e2).trans (e4 j u hj)⟩, h.len⟩

/-- One's own can be read, where it has an address. -/
theorem Rd.own {w : World} {B : Nat} {e : TypeId} {s n g c : Nat} {cs : List Value} (h : w.ownsRow B e s (.slice (some ⟨g, 0, none⟩) n c) n cs) : Rd w s (.slice (some ⟨g, 0, none⟩) n c) n cs := by
  rcases h.2 with ⟨e1, _⟩ | ⟨g', cap, cur, e1, _, h3, h4, _⟩
  · cases e1
  · cases e1
    refine ⟨⟨g, 0, c, rfl, lt_of_heap h3, h4, fun j u hj => ?_⟩, h.1⟩
    have hl : j < n * s := by rw [← h.1]; exact (List.getElem?_eq_some_iff.1 hj).1
    rw [Nat.zero_add, World.ownsRow.cellAt h j hl]
    exact hj

/-- append of what can be read to a row of one's own. -/
theorem run_own {P : Program} (W : World) (t ty e : TypeId) (i : TypeInfo) (z : Value) (size bytes : Nat) (h1 : P.underlying t = some (.slice e)) (h2 : P.info? e = some i) (h3 : i.zero = some z) (h4 : i.size = size) (h5 : i.bytes = bytes) (h6 : z.cells.size = size) (h7 : 0 < size)
    (B g c n m : Nat) (xs news : List Value) (x : Value) (hown : W.ownsRow B e size (.slice (some ⟨g, 0, none⟩) n c) n xs) (hx : Rd W size x m news) (h1c : ∀ u ∈ news, u.oneCell' = true) (b1 : n + m ≤ 1048576) (b2 : bytes ≤ 1000) (b3 : B ≤ W.heap.size) :
    ∃ g' c' w', (Builtin.append_ #[t, t] ty #[.slice (some ⟨g, 0, none⟩) n c, x]).run P W = .ok (.slice (some ⟨g', 0, none⟩) (n + m) c') w' ∧ w'.ownsRow B e size (.slice (some ⟨g', 0, none⟩) (n + m) c') (n + m) (xs ++ news) ∧ Below B W w' ∧ W.grownBy w' (some g) := by
  obtain ⟨b, o, cx, rfl, hb, hmc, hcs⟩ := hx.at_
  obtain ⟨v', w', hrun, r1, r2, _, r3⟩ := run_append_own_at (P := P) W B t ty e i z size bytes h1 h2 h3 h4 h5 h6 h7 _ n xs hown ⟨b, o, none⟩ m cx news hx.len (fun j u hj => by rw [add_plainW]; exact hcs j u hj) h1c (by unfold maxLen; omega) (by
    have : (n + m) * bytes ≤ 1048576 * 1000 := Nat.mul_le_mul b1 b2
    omega) b3
  rcases r1.2 with ⟨e1, _⟩ | ⟨g', cap', cur, e1, _⟩
  · subst e1
    rcases r3 with r3 | r3 <;> cases r3
  · subst e1
    exact ⟨g', cap', w', hrun, r1, (Below.refl B W).grown r2 b3 (fun k e => (hown.lt k e).1), r2⟩

/-- .. as a step of the walk. -/
theorem wpL_own {P : Program} (W : World) {ops : Array Oper} {rest : List Oper} {o : Oper} {a : Act} {Q : Exit → Act → World → Prop} (hgd : o.guard = none) (s x : Operand) (t : TypeId)
    (ho : o.op = .call { callee := .builtin .append, args := #[s, x], argTypes := #[t, t] }) (e : TypeId) (i : TypeInfo) (z : Value) (size bytes : Nat) (h1 : P.underlying t = some (.slice e)) (h2 : P.info? e = some i) (h3 : i.zero = some z) (h4 : i.size = size) (h5 : i.bytes = bytes) (h6 : z.cells.size = size) (h7 : 0 < size)
    (B g c n m : Nat) (xs news : List Value) (vx : Value) (hs : a.eval s = .slice (some ⟨g, 0, none⟩) n c) (hxe : a.eval x = vx) (hown : W.ownsRow B e size (.slice (some ⟨g, 0, none⟩) n c) n xs) (hx : Rd W size vx m news) (h1c : ∀ u ∈ news, u.oneCell' = true) (b1 : n + m ≤ 1048576) (b2 : bytes ≤ 1000) (b3 : B ≤ W.heap.size) (N : Nat) (hN : n + m = N) (ys : List Value) (hys : xs ++ news = ys)
    (h : ∀ g' c' w', w'.ownsRow B e size (.slice (some ⟨g', 0, none⟩) N c') N ys → Below B W w' → wpList P ops Q rest (a.put o.dst (.slice (some ⟨g', 0, none⟩) N c')) w') : wpList P ops Q (o :: rest) a W := by
  subst hN
  subst hys
  obtain ⟨g', c', w', hrun, r1, r2, _⟩ := run_own (P := P) W t o.type e i z size bytes h1 h2 h3 h4 h5 h6 h7 B g c n m xs news vx hown hx h1c b1 b2 b3
  refine wpList_plain hgd fun K hK => ?_
  unfold Oper.wp
  simp [execOp, ho, resolve, invoke, builtin, hs, hxe, hrun, Result.andThen]
  exact hK _ _ (h g' c' w' r1 r2)

/-- .. as a step of a region that draws its order. -/
theorem step_own {P : Program} {W : World} {ops : Array Oper} {o : Oper} {a : Act} {K : Act → World → Prop} {Q : Exit → Act → World → Prop} {E : Prop} (hgd : o.guard = none) (s x : Operand) (t : TypeId)
    (ho : o.op = .call { callee := .builtin .append, args := #[s, x], argTypes := #[t, t] }) (e : TypeId) (i : TypeInfo) (z : Value) (size bytes : Nat) (h1 : P.underlying t = some (.slice e)) (h2 : P.info? e = some i) (h3 : i.zero = some z) (h4 : i.size = size) (h5 : i.bytes = bytes) (h6 : z.cells.size = size) (h7 : 0 < size)
    (B g c n m : Nat) (xs news : List Value) (vx : Value) (hs : a.eval s = .slice (some ⟨g, 0, none⟩) n c) (hxe : a.eval x = vx) (hown : W.ownsRow B e size (.slice (some ⟨g, 0, none⟩) n c) n xs) (hx : Rd W size vx m news) (h1c : ∀ u ∈ news, u.oneCell' = true) (b1 : n + m ≤ 1048576) (b2 : bytes ≤ 1000) (b3 : B ≤ W.heap.size) (N : Nat) (hN : n + m = N) (ys : List Value) (hys : xs ++ news = ys)
    (h : ∀ g' c' w', w'.ownsRow B e size (.slice (some ⟨g', 0, none⟩) N c') N ys → Below B W w' → W.grownBy w' (some g) → K (a.put o.dst (.slice (some ⟨g', 0, none⟩) N c')) w') :
    if Region.wanted o (yielded ops a.tmps) = true then Oper.wp P o a W K Q else E := by
  subst hN
  subst hys
  have hw : Region.wanted o (yielded ops a.tmps) = true := by simp [Region.wanted, hgd]
  rw [if_pos hw]
  obtain ⟨g', c', w', hrun, r1, r2, r3⟩ := run_own (P := P) W t o.type e i z size bytes h1 h2 h3 h4 h5 h6 h7 B g c n m xs news vx hown hx h1c b1 b2 b3
  unfold Oper.wp
  simp [execOp, ho, resolve, invoke, builtin, hs, hxe, hrun, Result.andThen]
  exact h g' c' w' r1 r2 r3

/-- A new row of none. -/
theorem own_new (W : World) (e : TypeId) (s : Nat) : (W.alloc (.cells #[] e)).ownsRow W.heap.size e s (.slice (some ⟨W.heap.size, 0, none⟩) 0 0) 0 [] :=
  ⟨by simp, .inr ⟨W.heap.size, 0, #[], rfl, Nat.le_refl _, heap_alloc_new _ _, Nat.le_refl _, Nat.zero_le _, by simp, by simp⟩⟩

theorem own_base {w : World} {B B' n : Nat} {v : Value} {xs : List Value} {e : TypeId} {s : Nat} (h : w.ownsRow B' e s v n xs) (hB : B ≤ B') : w.ownsRow B e s v n xs := by
  refine ⟨h.1, ?_⟩
  rcases h.2 with h' | ⟨g, cap, cur, h1, h2, h3⟩
  · exact .inl h'
  · exact .inr ⟨g, cap, cur, h1, Nat.le_trans hB h2, h3⟩

/-- From k on. -/
theorem Rd.from {w : World} {s n c b o : Nat} {cs : List Value} (h : Rd w s (.slice (some ⟨b, o, none⟩) n c) n cs) {k : Nat} (hk : k ≤ n) : Rd w s (.slice (some (if c = k then ⟨b, o, none⟩ else ⟨b, o + k * s, none⟩)) (n - k) (c - k)) (n - k) (cs.drop (k * s)) := by
  obtain ⟨b', o', c', e, h1, h2, h3⟩ := h.at_
  cases e
  have hl : (cs.drop (k * s)).length = (n - k) * s := by rw [List.length_drop, h.len, Nat.sub_mul]
  split
  · have e0 : cs.drop (k * s) = [] := List.eq_nil_of_length_eq_zero (by rw [hl, show n - k = 0 by omega, Nat.zero_mul])
    exact ⟨⟨b, o, _, rfl, h1, by omega, fun j u hj => by rw [e0] at hj; cases hj⟩, hl⟩
  · exact ⟨⟨b, o + k * s, _, rfl, h1, by omega, fun j u hj => by
      rw [List.getElem?_drop] at hj
      rw [Nat.add_assoc]
      exact h3 _ _ hj⟩, hl⟩

/-- The first k. -/
theorem Rd.upto {w : World} {s n c b o : Nat} {cs : List Value} (h : Rd w s (.slice (some ⟨b, o, none⟩) n c) n cs) {k : Nat} (hk : k ≤ n) : Rd w s (.slice (some ⟨b, o, none⟩) k c) k (cs.take (k * s)) := by
  obtain ⟨b', o', c', e, h1, h2, h3⟩ := h.at_
  cases e
  refine ⟨⟨b, o, _, rfl, h1, by omega, fun j u hj => ?_⟩, by rw [List.length_take, h.len]; exact Nat.min_eq_left (Nat.mul_le_mul_right _ hk)⟩
  rw [List.getElem?_take] at hj
  split at hj
  · exact h3 _ _ hj
  · cases hj

/-- A block made at once. -/
theorem Rd.new (W : World) (e : TypeId) (s : Nat) (cs : List Value) (n : Nat) (h : cs.length = n * s) : Rd (W.alloc (.cells cs.toArray e)) s (.slice (some ⟨W.heap.size, 0, none⟩) n n) n cs :=
  ⟨⟨W.heap.size, 0, n, rfl, by simp, Nat.le_refl _, fun j u hj => by rw [Lib.cell_of_heap (heap_alloc_new W _), Nat.zero_add]; simpa using hj⟩, h⟩

/-- What lies elsewhere stays where a row grows. -/
theorem Rd.grown {w w' : World} {s n b o c : Nat} {cs : List Value} {g : Nat} (h : Rd w s (.slice (some ⟨b, o, none⟩) n c) n cs) (hg : w.grownBy w' (some g)) (hne : ¬ g = b) : Rd w' s (.slice (some ⟨b, o, none⟩) n c) n cs := by
  obtain ⟨b', o', c', e, h1, h2, h3⟩ := h.at_
  cases e
  exact ⟨⟨b, o, c, rfl, Nat.lt_of_lt_of_le h1 hg.size, h2, fun j u hj => cell_grownR hg (h3 j u hj) h1 (fun e => hne (by cases e; rfl))⟩, h.len⟩

/-- Texts. -/
theorem keyV_cell (l : List ByteArray) : ∀ u ∈ keyV l, u.oneCell' = true := by
  intro u hu
  obtain ⟨s, _, rfl⟩ := List.mem_map.1 hu
  rfl

theorem atC_cell (l : List At) : ∀ u ∈ atC l, u.oneCell' = true := by
  intro u hu
  obtain ⟨x, _, he⟩ := List.mem_flatMap.1 hu
  simp at he
  rcases he with rfl | rfl <;> rfl

theorem keyV_len (l : List ByteArray) : (keyV l).length = l.length := by simp [keyV]

theorem atC_lenC (l : List At) : (atC l).length = l.length * 2 := by
  induction l with
  | nil => rfl
  | cons x l ih => show (atC l).length + 2 = _; rw [ih, List.length_cons]; omega

theorem atC_drop (l : List At) : ∀ k, (atC l).drop (k * 2) = atC (l.drop k) := by
  induction l with
  | nil => intro k; simp [atC]
  | cons x l ih =>
    intro k
    cases k with
    | zero => rfl
    | succ k =>
      have e : atC (x :: l) = .string x.name :: .string x.value :: atC l := rfl
      rw [e, show (k + 1) * 2 = k * 2 + 1 + 1 by omega, List.drop_succ_cons, List.drop_succ_cons, List.drop_succ_cons]
      exact ih k

theorem atC_take (l : List At) : ∀ k, (atC l).take (k * 2) = atC (l.take k) := by
  induction l with
  | nil => intro k; simp [atC]
  | cons x l ih =>
    intro k
    cases k with
    | zero => rfl
    | succ k =>
      have e : atC (x :: l) = .string x.name :: .string x.value :: atC l := rfl
      rw [e, show (k + 1) * 2 = k * 2 + 1 + 1 by omega, List.take_succ_cons, List.take_succ_cons, List.take_succ_cons, ih k]
      rfl

theorem Rd.key {w : World} {n : Nat} {v : Value} {l : List ByteArray} (h : Rd w 1 v n (keyV l)) {i : Nat} (hi : i < l.length) : ∃ b o c, v = .slice (some ⟨b, o, none⟩) n c ∧ b < w.heap.size ∧ n ≤ c ∧ w.cell? ⟨b, o + i, none⟩ = some (.string l[i]) := by
  obtain ⟨b, o, c, e, h1, h2, h3⟩ := h.at_
  exact ⟨b, o, c, e, h1, h2, h3 i _ (by simp [keyV, hi])⟩

theorem Rd.pair {w : World} {n : Nat} {v : Value} {l : List At} (h : Rd w 2 v n (atC l)) {i : Nat} (hi : i < l.length) : ∃ b o c, v = .slice (some ⟨b, o, none⟩) n c ∧ b < w.heap.size ∧ n ≤ c ∧ w.cell? ⟨b, o + i * 2, none⟩ = some (.string l[i].name) ∧ w.cell? ⟨b, o + i * 2 + 1, none⟩ = some (.string l[i].value) := by
  obtain ⟨b, o, c, e, h1, h2, h3⟩ := h.at_
  obtain ⟨k1, k2⟩ := atC_get l i hi
  exact ⟨b, o, c, e, h1, h2, h3 _ _ k1, h3 (i * 2 + 1) _ k2⟩

/-- .. as a row of attrs. -/
theorem Rd.ats {w : World} {n : Nat} {a : Option Addr} {c : Nat} {l : List At} (h : Rd w 2 (.slice a n c) n (atC l)) : AtRow w a l := by
  intro i hi
  obtain ⟨b, o, c', e, h1, h2, h3, h4⟩ := h.pair hi
  cases e
  exact ⟨b, o, rfl, h1, h3, h4⟩

/-- A row whose cells can be read, of none too, wherever it lies. -/
structure Sr (w : World) (s : Nat) (v : Value) (n : Nat) (cs : List Value) : Prop where
  at_ : ∃ a c, v = .slice a n c ∧ (0 < n → ∃ b o, a = some ⟨b, o, none⟩ ∧ b < w.heap.size ∧ CellsAt w b o cs)
  len : cs.length = n * s

theorem Sr.below {w w' : World} {s n : Nat} {v : Value} {cs : List Value} (h : Sr w s v n cs) (hb : Below w.heap.size w w') : Sr w' s v n cs := by
  obtain ⟨a, c, e1, e2⟩ := h.at_
  refine ⟨⟨a, c, e1, fun hn => ?_⟩, h.len⟩
  obtain ⟨b, o, f1, f2, f3⟩ := e2 hn
  exact ⟨b, o, f1, Nat.lt_of_lt_of_le f2 hb.size, fun j u hj => (hb.cell (p := ⟨b, o + j, none⟩) f2).trans (f3 j u hj)⟩

theorem AtRow.sr {w : World} {a : Option Addr} {l : List At} {n c : Nat} (h : AtRow w a l) (hn : l.length = n) : Sr w 2 (.slice a n c) n (atC l) := by
  refine ⟨⟨a, c, rfl, fun h0 => ?_⟩, by rw [atC_lenC, hn]⟩
  obtain ⟨b, o, e, hb, _, _⟩ := h 0 (by omega)
  refine ⟨b, o, e, hb, fun j u hj => ?_⟩
  have hl : j < (atC l).length := (List.getElem?_eq_some_iff.1 hj).1
  rw [atC_lenC] at hl
  obtain ⟨b2, o2, e2, _, c1, c2⟩ := h (j / 2) (by omega)
  rw [e] at e2
  obtain ⟨rfl, rfl⟩ : b = b2 ∧ o = o2 := by cases e2; exact ⟨rfl, rfl⟩
  obtain ⟨k1, k2⟩ := atC_get l (j / 2) (by omega)
  rcases Nat.mod_two_eq_zero_or_one j with hm | hm
  · have ej : j / 2 * 2 = j := by omega
    rw [ej] at k1 c1
    rw [k1] at hj
    cases hj
    exact c1
  · have ej : j / 2 * 2 + 1 = j := by omega
    rw [ej] at k2
    rw [k2] at hj
    cases hj
    rw [Nat.add_assoc, ej] at c2
    exact c2

/-- append of such a row, as a step of a region that draws its order. -/
theorem step_src {P : Program} {W : World} {ops : Array Oper} {o : Oper} {a : Act} {K : Act → World → Prop} {Q : Exit → Act → World → Prop} {E : Prop} (hgd : o.guard = none) (s x : Operand) (t : TypeId)
    (ho : o.op = .call { callee := .builtin .append, args := #[s, x], argTypes := #[t, t] }) (e : TypeId) (i : TypeInfo) (z : Value) (size bytes : Nat) (h1 : P.underlying t = some (.slice e)) (h2 : P.info? e = some i) (h3 : i.zero = some z) (h4 : i.size = size) (h5 : i.bytes = bytes) (h6 : z.cells.size = size) (h7 : 0 < size)
    (B g c n m : Nat) (xs news : List Value) (vx : Value) (hs : a.eval s = .slice (some ⟨g, 0, none⟩) n c) (hxe : a.eval x = vx) (hown : W.ownsRow B e size (.slice (some ⟨g, 0, none⟩) n c) n xs) (hx : Sr W size vx m news) (h1c : ∀ u ∈ news, u.oneCell' = true) (b1 : n + m ≤ 1048576) (b2 : bytes ≤ 1000) (b3 : B ≤ W.heap.size) (N : Nat) (hN : n + m = N) (ys : List Value) (hys : xs ++ news = ys)
    (h : ∀ g' c' w', w'.ownsRow B e size (.slice (some ⟨g', 0, none⟩) N c') N ys → Below B W w' → W.grownBy w' (some g) → K (a.put o.dst (.slice (some ⟨g', 0, none⟩) N c')) w') :
    if Region.wanted o (yielded ops a.tmps) = true then Oper.wp P o a W K Q else E := by
  obtain ⟨ax, cx, rfl, hpos⟩ := hx.at_
  rcases Nat.eq_zero_or_pos m with h0 | h0
  · subst h0
    have hw : Region.wanted o (yielded ops a.tmps) = true := by simp [Region.wanted, hgd]
    rw [if_pos hw]
    have hnews : news = [] := List.eq_nil_of_length_eq_zero (by rw [hx.len, Nat.zero_mul])
    subst hnews
    rw [List.append_nil] at hys
    subst hys
    subst hN
    have hsrc : Src P i.size t (.slice ax 0 cx) 0 [] W := by
      cases ax with
      | none => exact Src.ofNil W h1 cx
      | some ad => exact Src.ofSlice W h1 ad 0 cx [] (by simp) (fun j u h => by simp at h) (fun u h => by cases h)
    have hle : n ≤ c := by
      rcases hown.2 with ⟨e1, _⟩ | ⟨g', cap, cur, e1, _, _, hc, _⟩
      · cases e1
      · cases e1
        exact hc
    have hr := run_append_nothing (P := P) W t t o.type e i h1 h2 (some ⟨g, 0, none⟩) n c hle _ hsrc
    unfold Oper.wp
    simp [execOp, ho, resolve, invoke, builtin, hs, hxe, hr, Result.andThen]
    exact h g c W (by rw [Nat.add_zero]; exact hown) (Below.refl _ _) ⟨rfl, rfl, rfl, Nat.le_refl _, fun i _ _ => rfl⟩
  · obtain ⟨b, o', rfl, hb, hcs⟩ := hpos h0
    have hw : Region.wanted o (yielded ops a.tmps) = true := by simp [Region.wanted, hgd]
    rw [if_pos hw]
    subst hN
    subst hys
    obtain ⟨v', w', hrun, r1, r2, _, r3⟩ := run_append_own_at (P := P) W B t o.type e i z size bytes h1 h2 h3 h4 h5 h6 h7 _ n xs hown ⟨b, o', none⟩ m cx news hx.len (fun j u hj => by rw [add_plainW]; exact hcs j u hj) h1c (by unfold maxLen; omega) (by
      have : (n + m) * bytes ≤ 1048576 * 1000 := Nat.mul_le_mul b1 b2
      omega) b3
    rcases r1.2 with ⟨e1, _⟩ | ⟨g', cap', cur, e1, _⟩
    · subst e1
      rcases r3 with r3 | r3 <;> cases r3
    · subst e1
      unfold Oper.wp
      simp [execOp, ho, resolve, invoke, builtin, hs, hxe, hrun, Result.andThen]
      exact h g' cap' w' r1 ((Below.refl B W).grown r2 b3 (fun k e => (hown.lt k e).1)) r2

end Go.Proofs.YtkejmifkjgpdjaaGreat
