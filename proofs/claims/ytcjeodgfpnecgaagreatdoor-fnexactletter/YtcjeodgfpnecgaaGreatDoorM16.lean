/- A pile: what is open, in a row of its own; contracts of the pile of numbers. Rows of the call's own: append within a region that draws, what stays where another row grows. Rows of nodes whose attrs are but read: what append adds to them, and what it leaves as it was. -/
import Derived.Test.YtcjeodgfpnecgaaGreatDoorM15
import Derived.Test.YtcjeodgfpnecgaaGreatDoorM13
import Derived.Deep.QuietTactic
import Derived.BigQuiet
import Derived.Maps.AppendAt
import Derived.Deep.Upon
namespace Go.Proofs.YtcjeodgfpnecgaaGreatDoor
open Go.RowKit
set_option linter.unusedVariables false
set_option linter.unusedSimpArgs false

/-- A pile's slice lies in the o-th cell of block g; what it holds lies in a row of its own. -/
structure PileAt (E : TypeId) (s : Nat) (w : World) (B g o : Nat) (cur : Array Value) (T : TypeId) (v : Value) (n : Nat) (cs : List Value) : Prop where
  ge : B ≤ g
  blk : w.heap[g]? = some (.cells cur T (0, 0))
  at_ : cur[o]? = some v
  row : w.ownsRow B E s v n cs
  ne : T ≠ E

theorem PileAt.lt {E s w B g o cur T v n cs} (h : PileAt E s w B g o cur T v n cs) : g < w.heap.size := lt_of_heap h.blk

theorem PileAt.cell {E s w B g o cur T v n cs} (h : PileAt E s w B g o cur T v n cs) : w.cell? ⟨g, o, none⟩ = some v := by
  rw [Lib.cell_of_heap h.blk]
  exact h.at_

theorem PileAt.own_ne {E s w B g o cur T v n cs} (h : PileAt E s w B g o cur T v n cs) : v.ownBlock ≠ some g := by
  intro e
  rcases h.row.2 with ⟨rfl, _⟩ | ⟨b, cap, c, rfl, _, hh, _⟩
  · cases e
  · have : b = g := Option.some.inj e
    subst this
    rw [h.blk] at hh
    injection hh with hh
    injection hh with _ h2 _
    exact h.ne h2

theorem PileAt.below {E s w w' B g o cur T v n cs} (h : PileAt E s w B g o cur T v n cs) (hb : Below w.heap.size w w') : PileAt E s w' B g o cur T v n cs :=
  ⟨h.ge, (hb.block g h.lt).trans h.blk, h.at_, ownsRow_below h.row hb, h.ne⟩

theorem own_less {w : World} {B : Nat} {E : TypeId} {s b n m cap : Nat} {xs : List Value} (h : w.ownsRow B E s (.slice (some ⟨b, 0, none⟩) n cap) n xs) (hm : m ≤ n) : w.ownsRow B E s (.slice (some ⟨b, 0, none⟩) m cap) m (xs.take (m * s)) := by
  rcases h.2 with ⟨e, _⟩ | ⟨g, c, cur, e, h1, h2, h3, h4, h5, h6⟩
  · cases e
  · injection e with e1 e2 e3
    injection e1 with e1
    injection e1 with e1 _ _
    subst e1 e3
    have hms : m * s ≤ n * s := Nat.mul_le_mul_right _ hm
    refine ⟨by rw [List.length_take, h.1]; omega, .inr ⟨b, cap, cur, rfl, h1, h2, by omega, h4, h5, ?_⟩⟩
    rw [← h6, List.take_take]
    congr 1
    omega

/-- What is set in a block that the row does not lie in. -/
theorem own_set {w : World} {B : Nat} {E : TypeId} {s n : Nat} {v : Value} {xs : List Value} (h : w.ownsRow B E s v n xs) {g : Nat} (hg : v.ownBlock ≠ some g) (o : Nat) (u : Value) : (w.setCell ⟨g, o, none⟩ u).ownsRow B E s v n xs :=
  h.kept (Lib.grownBy_setCell w g o u) (.inr hg)

/-- The pile's slice set anew. -/
theorem PileAt.mk_set {E : TypeId} {s : Nat} {w : World} {B g o : Nat} {cur : Array Value} {T : TypeId} {v : Value} (hg : B ≤ g) (hb : w.heap[g]? = some (.cells cur T (0, 0))) (ha : cur[o]? = some v) (hT : T ≠ E) {u : Value} {m : Nat} {ds : List Value} (hu : w.ownsRow B E s u m ds) (hn : u.ownBlock ≠ some g) : PileAt E s (w.setCell ⟨g, o, none⟩ u) B g o (cur.setIfInBounds o u) T u m ds := by
  refine ⟨hg, heap_setCell_same w g o cur T u hb, ?_, own_set hu hn o u, hT⟩
  have : o < cur.size := (Array.getElem?_eq_some_iff.1 ha).1
  simp [this]

theorem PileAt.set {E s w B g o cur T v n cs} (h : PileAt E s w B g o cur T v n cs) {u : Value} {m : Nat} {ds : List Value} (hu : w.ownsRow B E s u m ds) (hg : u.ownBlock ≠ some g) : PileAt E s (w.setCell ⟨g, o, none⟩ u) B g o (cur.setIfInBounds o u) T u m ds :=
  PileAt.mk_set h.ge h.blk h.at_ h.ne hu hg

theorem PileAt.drew {E s w B g o cur T v n cs} (h : PileAt E s w B g o cur T v n cs) : PileAt E s w.drew B g o cur T v n cs := ⟨h.ge, h.blk, h.at_, h.row.drew, h.ne⟩

theorem KeepB.drew {p : Nat → Prop} {w w' : World} (h : KeepB p w w') : KeepB p w w'.drew := ⟨h.os, h.tape, h.output, h.size, h.block⟩

theorem PileAt.keep {E s w w' B g o cur T v n cs x} (h : PileAt E s w B g o cur T v n cs) (hk : KeepB (fun k => k = x) w w') (h1 : g ≠ x) (h2 : v.ownBlock ≠ some x) : PileAt E s w' B g o cur T v n cs :=
  ⟨h.ge, (hk.block g h.lt h1).trans h.blk, h.at_, h.row.kept (row := some x) ⟨hk.os, hk.tape, hk.output, hk.size, fun k hk1 hk2 => hk.block k hk1 (fun e => hk2 (by rw [e]))⟩ (.inr h2), h.ne⟩

def lenV : Value → Nat
  | .slice _ n _ => n
  | _ => 0

theorem own_len {w : World} {B : Nat} {E : TypeId} {s n : Nat} {v : Value} {xs : List Value} (h : w.ownsRow B E s v n xs) : ∃ a c, v = .slice a n c := by
  rcases h.2 with ⟨rfl, rfl⟩ | ⟨g, cap, cur, rfl, _⟩
  · exact ⟨none, 0, rfl⟩
  · exact ⟨_, _, rfl⟩

theorem own_pos {w : World} {B : Nat} {E : TypeId} {s n : Nat} {v : Value} {xs : List Value} (h : w.ownsRow B E s v n xs) (hn : 0 < n) : ∃ b c, v = .slice (some ⟨b, 0, none⟩) n c ∧ b < w.heap.size ∧ B ≤ b ∧ n ≤ c ∧ ∀ j, j < n * s → w.cell? ⟨b, j, none⟩ = xs[j]? := by
  rcases h.2 with ⟨rfl, rfl⟩ | ⟨g, cap, cur, rfl, hB, hh, hc, _, hs, ht⟩
  · omega
  · refine ⟨g, cap, rfl, lt_of_heap hh, hB, hc, fun j hj => ?_⟩
    rw [Lib.cell_of_heap hh, ← ht, List.getElem?_take, if_pos hj, Array.getElem?_toList]

/-- Numbers, the top first. -/
abbrev PileI (w : World) (B g o : Nat) (cur : Array Value) (T : TypeId) (v : Value) (L : List Nat) : Prop := PileAt 2 1 w B g o cur T v L.length (intC L.reverse)

theorem rev_last (x : Nat) (L : List Nat) : (intC (x :: L).reverse)[L.length]? = some (.int .i64 (x : Int)) := by
  rw [List.reverse_cons, intC_app, List.getElem?_append_right (by rw [intC_len, List.length_reverse]; exact Nat.le_refl _)]
  simp [intC]

theorem rev_take (x : Nat) (L : List Nat) : (intC (x :: L).reverse).take (L.length * 1) = intC L.reverse := by
  rw [List.reverse_cons, intC_app, List.take_left' (by rw [intC_len, List.length_reverse, Nat.mul_one])]

theorem PileAt.less {w : World} {B g o b c n : Nat} {cur : Array Value} {T : TypeId} {x : Nat} {L : List Nat} (h : PileI w B g o cur T (.slice (some ⟨b, 0, none⟩) (x :: L).length c) (x :: L)) (hn : L.length = n) :
    PileI (w.setCell ⟨g, o, none⟩ (.slice (some ⟨b, 0, none⟩) n c)) B g o (cur.setIfInBounds o (.slice (some ⟨b, 0, none⟩) n c)) T (.slice (some ⟨b, 0, none⟩) n c) L := by
  subst hn
  have h1 := own_less (m := L.length) h.row (by rw [List.length_cons]; omega)
  rw [rev_take] at h1
  exact h.set h1 h.own_ne

set_option maxHeartbeats 1000000 in
theorem cPiSize (B g o : Nat) (cur : Array Value) (T : TypeId) (v : Value) (L : List Nat) (w : World) (h : PileI w B g o cur T v L) :
    Calls Tryz.prog 63 #[.pointer (some ⟨g, o, none⟩)] w fun e w' => e = .returned (.int .i64 (L.length : Nat)) ∧ w' = w := by
  have c0 := h.cell
  obtain ⟨a, c, rfl⟩ := own_len h.row
  clear h
  generalize L.length = n at *
  go_enter Tryz.func63, Tryz.ntmps63
  go_wp2
  go_ret
  exact ⟨rfl, rfl⟩

set_option maxHeartbeats 1000000 in
theorem cPiTop0 (B g o : Nat) (cur : Array Value) (T : TypeId) (v : Value) (w : World) (h : PileI w B g o cur T v []) :
    Calls Tryz.prog 89 #[.pointer (some ⟨g, o, none⟩)] w fun e w' => e = .returned (.tuple #[.int .i64 0, .bool false]) ∧ Below w.heap.size w w' := by
  have c0 := h.cell
  obtain ⟨a, c, rfl⟩ := own_len h.row
  clear h
  go_enter Tryz.func89, Tryz.ntmps89
  go_wp2
  go_ret2
  exact ⟨rfl, Below.refl _ _⟩

set_option maxHeartbeats 1000000 in
theorem cPiTop (B g o : Nat) (cur : Array Value) (T : TypeId) (v : Value) (x : Nat) (L : List Nat) (w : World) (h : PileI w B g o cur T v (x :: L)) (hn : L.length ≤ 1048576) :
    Calls Tryz.prog 89 #[.pointer (some ⟨g, o, none⟩)] w fun e w' => e = .returned (.tuple #[.int .i64 (x : Int), .bool true]) ∧ Below w.heap.size w w' := by
  have c0 := h.cell
  obtain ⟨b, c, rfl, hb, _, hc, hcs⟩ := own_pos h.row (Nat.succ_pos _)
  have c1 := hcs L.length (by rw [List.length_cons]; omega)
  rw [rev_last] at c1
  clear h hcs
  rw [List.length_cons] at c0 hc
  obtain ⟨n, hnn⟩ : ∃ n, L.length = n := ⟨_, rfl⟩
  rw [hnn] at c0 c1 hn hc
  clear hnn
  have hq : ((n + 1 : Nat) : Int) = (n : Int) + 1 := by omega
  have hd : (((n : Int) + 1) == 0) = false := by simp; omega
  go_enter Tryz.func89, Tryz.ntmps89
  go_wp2_with fail
  go_quiet (fail)
  go_wp2_with fail
  go_ret2
  exact ⟨rfl, below_drewN (Below.refl _ _) _⟩

end Go.Proofs.YtcjeodgfpnecgaaGreatDoor

namespace Go.Proofs.YtcjeodgfpnecgaaGreatDoor
open Go.RowKit
set_option linter.unusedVariables false
set_option linter.unusedSimpArgs false

/-- append onto a row of the call's own, as one step of a region that draws its order. -/
theorem step_app_at {P : Program} {ops : Array Oper} {o : Oper} {a : Act} {w : World} {K : Act → World → Prop} {Q : Exit → Act → World → Prop} {E : Prop}
    (hg : o.guard = none) (s x : Operand) (t : TypeId) (hop : o.op = Op.call { callee := Callee.builtin Builtin.append, args := #[s, x], argTypes := #[t, t] })
    (base : Nat) (e : TypeId) (i : TypeInfo) (z : Value) (size bytes : Nat) (h1 : P.underlying t = some (.slice e)) (h2 : P.info? e = some i) (h3 : i.zero = some z) (h4 : i.size = size) (h5 : i.bytes = bytes) (h6 : z.cells.size = size) (h7 : 0 < size)
    (v : Value) (n : Nat) (xs : List Value) (hs : a.eval s = v) (hown : w.ownsRow base e size v n xs)
    (ad : Addr) (m c : Nat) (news : List Value) (hx : a.eval x = .slice (some ad) m c) (hn : news.length = m * size) (hc : ∀ j u, news[j]? = some u → w.cell? (ad.add j) = some u) (h1c : ∀ u ∈ news, u.oneCell' = true)
    (b1 : n + m ≤ maxLen) (b2 : (n + m) * bytes ≤ 140737488355328) (b3 : base ≤ w.heap.size)
    (hK : ∀ v' w', w'.ownsRow base e size v' (n + m) (xs ++ news) → w.grownBy w' v.ownBlock → (v'.ownBlock = v.ownBlock ∨ v'.ownBlock = some w.heap.size) → K (a.put o.dst v') w') :
    if Region.wanted o (yielded ops a.tmps) = true then Oper.wp P o a w K Q else E := by
  have hw : Region.wanted o (yielded ops a.tmps) = true := by simp [Region.wanted, hg]
  rw [if_pos hw]
  obtain ⟨v', w', hrun, r1, r2, _, r3⟩ := run_append_own_at (P := P) w base t o.type e i z size bytes h1 h2 h3 h4 h5 h6 h7 v n xs hown ad m c news hn hc h1c b1 b2 b3
  unfold Oper.wp
  simp [execOp, hop, resolve, invoke, builtin, hs, hx, hrun, Result.andThen]
  exact hK v' w' r1 r2 r3

theorem two_cells (w : World) (x y : Value) (T : TypeId) : ∀ j u, [x, y][j]? = some u → (w.alloc (.cells #[x, y] T)).cell? ((⟨w.heap.size, 0, none⟩ : Addr).add j) = some u := by
  intro j u hj
  match j, hj with
  | 0, hj => simp at hj; subst hj; simp [Addr.add]
  | 1, hj => simp at hj; subst hj; simp [Addr.add]

theorem box2e {w : World} {g : Nat} {x y : Value} {T : TypeId} (h : w.heap[g]? = some (.cells #[x, y] T (0, 0))) : (w.cell? ⟨g, 0, none⟩ = some x ∧ w.cell? ⟨g, 1, none⟩ = some y) ∧ (w.frozen? ⟨g, 0, none⟩ = false ∧ w.frozen? ⟨g, 1, none⟩ = false) :=
  ⟨⟨by rw [Lib.cell_of_heap h]; rfl, by rw [Lib.cell_of_heap h]; rfl⟩, Lib.frozen_of_heap h 0, Lib.frozen_of_heap h 1⟩

theorem box_set2 {w1 : World} {b : Nat} {x y u v : Value} {T : TypeId} (h : w1.heap[b]? = some (.cells #[x, y] T (0, 0))) : ((w1.setCell ⟨b, 0, none⟩ u).setCell ⟨b, 1, none⟩ v).heap[b]? = some (.cells #[u, v] T (0, 0)) :=
  heap_setCell_same _ _ _ _ _ _ (heap_setCell_same w1 b 0 _ _ u h)

theorem atC_app (l m : List At) : atC (l ++ m) = atC l ++ atC m := by simp [atC]

theorem cell_grownR {w w' : World} {row : Option Nat} (h : w.grownBy w' row) {b o : Nat} {v : Value} (hc : w.cell? ⟨b, o, none⟩ = some v) (hb : b < w.heap.size) (hr : row ≠ some b) : w'.cell? ⟨b, o, none⟩ = some v :=
  (World.cell?_of_block (a := ⟨b, o, none⟩) (h.block b hb (fun e => hr e.symm))).trans hc

theorem blk_grownR {w w' : World} {row : Option Nat} {e T : TypeId} {b : Nat} {c : Array Value} (h : w.heap[b]? = some (.cells c T (0, 0))) (hg : w.grownBy w' row) (hr : ∀ k, row = some k → ∃ c fz, w.heap[k]? = some (.cells c e fz)) (hT : T ≠ e) : w'.heap[b]? = some (.cells c T (0, 0)) :=
  (hg.block b (lt_of_heap h) (fun e1 => by
    obtain ⟨c2, fz2, h3⟩ := hr b e1.symm
    rw [h] at h3
    injection h3 with h3
    injection h3 with _ h4 _
    exact hT h4)).trans h

theorem Nd.Row.keepB {w w' : World} {B : Nat} {v : Value} {es : List Nd.E} {p : Nat → Prop} (h : Nd.Row w B v es) (hk : KeepB p w w') (hp : ∀ k, p k → ∀ c e fz, w.heap[k]? = some (.cells c e fz) → e ≠ 44 ∧ e ≠ 58) : Nd.Row w' B v es := by
  refine ⟨⟨h.own.1, ?_⟩, fun e he => ⟨fun hl => ?_, (h.ats e he).2⟩, h.apart⟩
  · rcases h.own.2 with h' | ⟨g, cap, cur, h1, h2, h3, h4⟩
    · exact .inl h'
    · exact .inr ⟨g, cap, cur, h1, h2, (hk.block g (lt_of_heap h3) (fun hpg => (hp g hpg _ _ _ h3).1 rfl)).trans h3, h4⟩
  · obtain ⟨g, o, cu, e1, e2, e3, e4⟩ := (h.ats e he).1 hl
    exact ⟨g, o, cu, e1, e2, (hk.block g (lt_of_heap e3) (fun hpg => (hp g hpg _ _ _ e3).2 rfl)).trans e3, e4⟩

theorem Nd.Row.kind {w : World} {B : Nat} {v : Value} {es : List Nd.E} (h : Nd.Row w B v es) : ∀ k, v.ownBlock = some k → ∃ c fz, w.heap[k]? = some (.cells c 44 fz) := by
  intro k hk
  rcases h.own.2 with ⟨rfl, _⟩ | ⟨g, cap, cur, rfl, _, hh, _⟩
  · cases hk
  · have : g = k := Option.some.inj hk
    subst this
    exact ⟨_, _, hh⟩

end Go.Proofs.YtcjeodgfpnecgaaGreatDoor

namespace Go.Proofs.YtcjeodgfpnecgaaGreatDoor
open Go.RowKit
set_option linter.unusedVariables false
set_option linter.unusedSimpArgs false

/-- The attrs lie there, apart from that row. -/
def KAts (w : World) (v : Value) (a : Option Addr) (l : List At) : Prop := 0 < l.length → ∃ g o cu, a = some ⟨g, o, none⟩ ∧ w.heap[g]? = some (.cells cu 58 (0, 0)) ∧ AtCells cu o l ∧ ¬ v.ownBlock = some g

/-- What is not of that row stays. -/
def Kept (v : Value) (w : World) (v' : Value) (w' : World) : Prop := ∀ b o, w.heap[b]? = some o → ¬ v.ownBlock = some b → w'.heap[b]? = some o ∧ ¬ v'.ownBlock = some b

theorem Kept.refl (v : Value) (w : World) : Kept v w v w := fun _ _ h k => ⟨h, k⟩

theorem Kept.trans {v1 v2 v3 : Value} {w1 w2 w3 : World} (h : Kept v1 w1 v2 w2) (k : Kept v2 w2 v3 w3) : Kept v1 w1 v3 w3 := fun b o hb hv => k b o (h b o hb hv).1 (h b o hb hv).2

theorem Kept.of_below {v : Value} {w w' : World} (hb : Below w.heap.size w w') : Kept v w v w' := fun b o h k => ⟨(hb.block b (lt_of_heap h)).trans h, k⟩

theorem KAts.kept {v v' : Value} {w w' : World} {a : Option Addr} {l : List At} (h : KAts w v a l) (k : Kept v w v' w') : KAts w' v' a l := fun hl => by
  obtain ⟨g, o, cu, e1, e2, e3, e4⟩ := h hl
  exact ⟨g, o, cu, e1, (k _ _ e2 e4).1, e3, (k _ _ e2 e4).2⟩

theorem KAts.below {v : Value} {w w' : World} {a : Option Addr} {l : List At} (h : KAts w v a l) (hb : Below w.heap.size w w') : KAts w' v a l := h.kept (Kept.of_below hb)

theorem KAts.nil (w : World) (v : Value) (a : Option Addr) : KAts w v a [] := fun h => absurd h (Nat.lt_irrefl 0)

/-- A row of nodes of one's own. -/
structure KRow (B : Nat) (w : World) (v : Value) (L : List Tk) : Prop where
  row : ∃ es : List Nd.E, w.ownsRow B 44 4 v es.length (Nd.cs es) ∧ es.map (·.t) = L ∧ ∀ e ∈ es, KAts w v e.a e.t.attrs
  base : B ≤ w.heap.size

theorem KRow.below {B : Nat} {w w' : World} {v : Value} {L : List Tk} (h : KRow B w v L) (hb : Below w.heap.size w w') : KRow B w' v L := by
  obtain ⟨es, h1, h2, h3⟩ := h.row
  exact ⟨⟨es, ownsRow_below h1 hb, h2, fun e he => (h3 e he).below hb⟩, Nat.le_trans h.base hb.size⟩

theorem KRow.lt {B : Nat} {w : World} {v : Value} {L : List Tk} (h : KRow B w v L) {b : Nat} (e : v.ownBlock = some b) : B ≤ b ∧ b < w.heap.size := by
  obtain ⟨es, h1, h2, h3⟩ := h.row
  exact h1.lt b e

theorem KRow.other {B : Nat} {w : World} {v : Value} {L : List Tk} (h : KRow B w v L) {b : Nat} (hb : w.heap.size ≤ b ∨ b < B) : ¬ v.ownBlock = some b := fun e => by
  have := h.lt e
  omega

theorem KRow.slice {B : Nat} {w : World} {v : Value} {L : List Tk} (h : KRow B w v L) : ∃ a c, v = .slice a L.length c := by
  obtain ⟨es, h1, h2, h3⟩ := h.row
  have hl : es.length = L.length := by rw [← h2, List.length_map]
  rcases h1.2 with ⟨e, h0⟩ | ⟨g, cap, cur, e, _⟩
  · rw [← hl, h0]
    exact ⟨_, _, e⟩
  · rw [← hl]
    exact ⟨_, _, e⟩

theorem KRow.tk {B : Nat} {w : World} {v : Value} {L : List Tk} (h : KRow B w v L) : ∃ a c, v = .slice a L.length c ∧ TkRow w a L := by
  obtain ⟨es, h1, rfl, h3⟩ := h.row
  have hr : ∀ e ∈ es, AtRow w e.a e.t.attrs := fun e he j hj => by
    obtain ⟨g, o, cu, e1, e2, e3, _⟩ := h3 e he (Nat.lt_of_le_of_lt (Nat.zero_le _) hj)
    rw [e1]
    exact e3.atRow e2 j hj
  rw [List.length_map]
  rcases h1.2 with ⟨rfl, h0⟩ | ⟨g, cap, cur, rfl, hg, hh, hn, hc, hs, ht⟩
  · exact ⟨none, 0, by rw [h0], fun j hj => by rw [List.length_map] at hj; omega⟩
  · refine ⟨some ⟨g, 0, none⟩, cap, rfl, fun j hj => ?_⟩
    rw [List.length_map] at hj
    obtain ⟨k0, k1, k2, k3⟩ := Nd.cs_get es j hj
    have hx : ∀ k u, (Nd.cs es)[k]? = some u → w.cell? ⟨g, 0 + k, none⟩ = some u := by
      intro k u hk
      rw [Lib.cell_of_heap hh, Nat.zero_add, ← Array.getElem?_toList]
      rw [← ht, List.getElem?_take] at hk
      split at hk
      · exact hk
      · cases hk
    rw [List.getElem_map]
    exact ⟨g, 0, es[j].a, es[j].cap, rfl, lt_of_heap hh, hx _ _ k0, hx _ _ k1, hx _ _ k2, hx _ _ k3, hr _ (List.getElem_mem hj)⟩

/-- What an append of one node has made. -/
theorem k_more {B : Nat} {w w' : World} {v v' : Value} {es : List Nd.E} {L : List Tk} {t : Tk} {a1 : Option Addr} {c1 : Nat} (hb : B ≤ w.heap.size) (h1 : w.ownsRow B 44 4 v es.length (Nd.cs es)) (hm : es.map (·.t) = L) (h3 : ∀ e ∈ es, KAts w v e.a e.t.attrs) (hA : KAts w v a1 t.attrs)
    (ho : w'.ownsRow B 44 4 v' (es.length + 1) (Nd.cs es ++ Nd.cs [⟨t, a1, c1⟩])) (hgr : w.grownBy w' v.ownBlock) (hw : v'.ownBlock = v.ownBlock ∨ v'.ownBlock = some w.heap.size) :
    KRow B w' v' (L ++ [t]) ∧ Kept v w v' w' ∧ Below B w w' := by
  have key : Kept v w v' w' := fun b o h k => by
    refine ⟨(hgr.block b (lt_of_heap h) (fun x => k x.symm)).trans h, fun x => ?_⟩
    rcases hw with hw | hw
    · exact k (hw.symm.trans x)
    · rw [hw] at x
      have := lt_of_heap h
      have := Option.some.inj x
      omega
  refine ⟨⟨⟨es ++ [⟨t, a1, c1⟩], by rw [List.length_append, Nd.cs_app]; exact ho, by rw [List.map_append, hm]; rfl, fun e he => ?_⟩, Nat.le_trans hb hgr.size⟩, key, (Below.refl B w).grown hgr hb (fun k e => (h1.lt k e).1)⟩
  rcases List.mem_append.1 he with h' | h'
  · exact (h3 e h').kept key
  · rw [List.mem_singleton] at h'
    subst h'
    exact hA.kept key

theorem wpL_k (w : World) {ops : Array Oper} {rest : List Oper} {o : Oper} {a : Act} {Q : Exit → Act → World → Prop} (hgd : o.guard = none) (s x : Operand)
    (ho : o.op = .call { callee := .builtin .append, args := #[s, x], argTypes := #[26, 26] }) (B : Nat) (v : Value) (L : List Tk) (hs : a.eval s = v) (hrow : KRow B w v L)
    (t : Tk) (a1 : Option Addr) (c1 g nA : Nat) (hx : a.eval x = .slice (some ⟨g, 0, none⟩) 1 1) (hnA : t.attrs.length = nA) (hg : w.heap[g]? = some (.cells #[.int .i64 t.kind, .string t.name, .slice a1 nA c1, .string t.text] 44 (0, 0))) (hA : KAts w v a1 t.attrs) (hn : L.length ≤ 1000000)
    (h : ∀ v' w', KRow B w' v' (L ++ [t]) ∧ Kept v w v' w' ∧ Below B w w' → wpList Tryz.prog ops Q rest (a.put o.dst v') w') : wpList Tryz.prog ops Q (o :: rest) a w := by
  subst hnA
  obtain ⟨es, h1, rfl, h3⟩ := hrow.row
  rw [List.length_map] at hn
  obtain ⟨i0, hi, hz0, hz1, hz2⟩ := info_parts Nd.infoR
  refine wpList_append_own_at w hgd s x 26 ho B 44 i0 _ 4 64 Tryz.underlying26 hi hz0 hz1 hz2 rfl (by decide) v es.length (Nd.cs es) hs h1 ⟨g, 0, none⟩ 1 1 (Nd.cs [⟨t, a1, c1⟩]) hx (Nd.cs_len [⟨t, a1, c1⟩]) (node_cells hg) (Nd.cs_cell _) (by unfold maxLen; omega) (by omega) hrow.base ?_
  intro v' w' ho' hg' _ hw'
  exact h v' w' (k_more hrow.base h1 rfl h3 hA ho' hg' hw')

theorem step_k {ops : Array Oper} {o : Oper} {a : Act} {w : World} {K : Act → World → Prop} {Q : Exit → Act → World → Prop} {F : Prop} (hgd : o.guard = none) (s x : Operand)
    (ho : o.op = .call { callee := .builtin .append, args := #[s, x], argTypes := #[26, 26] }) (B : Nat) (v : Value) (L : List Tk) (hs : a.eval s = v) (hrow : KRow B w v L)
    (t : Tk) (a1 : Option Addr) (c1 g nA : Nat) (hx : a.eval x = .slice (some ⟨g, 0, none⟩) 1 1) (hnA : t.attrs.length = nA) (hg : w.heap[g]? = some (.cells #[.int .i64 t.kind, .string t.name, .slice a1 nA c1, .string t.text] 44 (0, 0))) (hA : KAts w v a1 t.attrs) (hn : L.length ≤ 1000000)
    (h : ∀ v' w', KRow B w' v' (L ++ [t]) ∧ Kept v w v' w' ∧ Below B w w' → K (a.put o.dst v') w') : if Region.wanted o (yielded ops a.tmps) = true then Oper.wp Tryz.prog o a w K Q else F := by
  subst hnA
  obtain ⟨es, h1, rfl, h3⟩ := hrow.row
  rw [List.length_map] at hn
  obtain ⟨i0, hi, hz0, hz1, hz2⟩ := info_parts Nd.infoR
  refine step_app_at hgd s x 26 ho B 44 i0 _ 4 64 Tryz.underlying26 hi hz0 hz1 hz2 rfl (by decide) v es.length (Nd.cs es) hs h1 ⟨g, 0, none⟩ 1 1 (Nd.cs [⟨t, a1, c1⟩]) hx (Nd.cs_len [⟨t, a1, c1⟩]) (node_cells hg) (Nd.cs_cell _) (by unfold maxLen; omega) (by omega) hrow.base ?_
  intro v' w' ho' hg' hw'
  exact h v' w' (k_more hrow.base h1 rfl h3 hA ho' hg' hw')

theorem KRow.later {B B' : Nat} {w : World} {v : Value} {L : List Tk} (h : KRow B' w v L) (hB : B ≤ B') : KRow B w v L := by
  obtain ⟨es, h1, h2, h3⟩ := h.row
  refine ⟨⟨es, ⟨h1.1, ?_⟩, h2, h3⟩, Nat.le_trans hB h.base⟩
  rcases h1.2 with h' | ⟨g, cap, cur, k1, k2, k3⟩
  · exact .inl h'
  · exact .inr ⟨g, cap, cur, k1, Nat.le_trans hB k2, k3⟩

end Go.Proofs.YtcjeodgfpnecgaaGreatDoor
