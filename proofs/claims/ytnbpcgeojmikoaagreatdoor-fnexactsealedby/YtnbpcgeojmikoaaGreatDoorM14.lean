/- Rows of the call's own: append within a region that draws, what stays where another row grows. Rows of texts and of pairs of texts, read; what is put together anew of them. Which of two attrs stands ahead: contract of the specification's l11Ahead. Texts into a list that rises, once: contract of the specification's l11Put. -/
import Derived.Test.YtnbpcgeojmikoaaGreatDoorM13
import Derived.Test.YtnbpcgeojmikoaaGreatDoorM10
import Derived.Test.YtnbpcgeojmikoaaGreatDoorM8
import Derived.Maps.AppendAt
import Derived.Deep.Upon
namespace Go.Proofs.YtnbpcgeojmikoaaGreatDoor
open Go.RowKit
set_option linter.unusedVariables false
set_option linter.unusedSimpArgs false

/-- append onto a row of the call's own, as one step of a region that draws its order. -/
theorem step_app_at {P : Program} {ops : Array Oper} {o : Oper} {a : Act} {w : World} {K : Act → World → Prop} {Q : Exit → Act → World → Prop} {E : Prop}
    (hg : o.guard = none) (s x : Operand) (t : TypeId) (hop : o.op = Op.call { callee := Callee.builtin Builtin.append, args := #[s, x], argTypes := #[t, t] })
    (base : Nat) (e : TypeId) (i : TypeInfo) (z : Value) (size bytes : Nat) (h1 : P.underlying t = some (.slice e)) (h2 : P.info? e = some i) (h3 : i.zero = some z) (h4 : i.size = size) (h5 : i.bytes = bytes) (h6 : z.cells.size = size) (h7 : 0 < size)
    (v : Value) (n : Nat) (xs : List Value) (hs : a.eval s = v) (hown : w.ownsRow base e size v n xs)
    (ad : Addr) (m c : Nat) (news : List Value) (hx : a.eval x = .slice (some ad) m c) (hn : news.length = m * size) (hc : ∀ j u, news[j]? = some u → w.cell? (ad.add j) = some u) (h1c : ∀ u ∈ news, u.oneCell' = true)
    (b1 : n + m ≤ maxLen) (b2 : (n + m) * bytes ≤ 140737488355328) (b3 : base ≤ w.heap.size)
    (hK : ∀ v' w', w'.ownsRow base e size v' (n + m) (xs ++ news) → w.grownBy w' v.ownBlock → (v'.ownBlock = v.ownBlock ∨ v'.ownBlock = some w.heap.size) → K (a.put o.dst v') w') :
    if Region.wanted o (yielded ops a.tmps) = true then Oper.wp P o a w K Q else E := by
  have hw : Region.wanted o (yielded ops a.tmps) = true := by simp [Region.wanted, hg]
  rw [if_pos hw]
  obtain ⟨v', w', hrun, r1, r2, _, r3⟩ := run_append_own_at (P := P) w base t o.type e i z size bytes h1 h2 h3 h4 h5 h6 h7 v n xs hown ad m c news hn hc h1c b1 b2 b3
  unfold Oper.wp
  simp [execOp, hop, resolve, invoke, builtin, hs, hx, hrun, Result.andThen]
  exact hK v' w' r1 r2 r3

theorem two_cells (w : World) (x y : Value) (T : TypeId) : ∀ j u, [x, y][j]? = some u → (w.alloc (.cells #[x, y] T)).cell? ((⟨w.heap.size, 0, none⟩ : Addr).add j) = some u := by
  intro j u hj
  match j, hj with
  | 0, hj => simp at hj; subst hj; simp [Addr.add]
  | 1, hj => simp at hj; subst hj; simp [Addr.add]

theorem box2e {w : World} {g : Nat} {x y : Value} {T : TypeId} (h : w.heap[g]? = some (.cells #[x, y] T (0, 0))) : (w.cell? ⟨g, 0, none⟩ = some x ∧ w.cell? ⟨g, 1, none⟩ = some y) ∧ (w.frozen? ⟨g, 0, none⟩ = false ∧ w.frozen? ⟨g, 1, none⟩ = false) :=
  ⟨⟨by rw [Lib.cell_of_heap h]; rfl, by rw [Lib.cell_of_heap h]; rfl⟩, Lib.frozen_of_heap h 0, Lib.frozen_of_heap h 1⟩

theorem box_set2 {w1 : World} {b : Nat} {x y u v : Value} {T : TypeId} (h : w1.heap[b]? = some (.cells #[x, y] T (0, 0))) : ((w1.setCell ⟨b, 0, none⟩ u).setCell ⟨b, 1, none⟩ v).heap[b]? = some (.cells #[u, v] T (0, 0)) :=
  heap_setCell_same _ _ _ _ _ _ (heap_setCell_same w1 b 0 _ _ u h)

theorem atC_app (l m : List At) : atC (l ++ m) = atC l ++ atC m := by simp [atC]

theorem cell_grownR {w w' : World} {row : Option Nat} (h : w.grownBy w' row) {b o : Nat} {v : Value} (hc : w.cell? ⟨b, o, none⟩ = some v) (hb : b < w.heap.size) (hr : row ≠ some b) : w'.cell? ⟨b, o, none⟩ = some v :=
  (World.cell?_of_block (a := ⟨b, o, none⟩) (h.block b hb (fun e => hr e.symm))).trans hc

theorem blk_grownR {w w' : World} {row : Option Nat} {e T : TypeId} {b : Nat} {c : Array Value} (h : w.heap[b]? = some (.cells c T (0, 0))) (hg : w.grownBy w' row) (hr : ∀ k, row = some k → ∃ c fz, w.heap[k]? = some (.cells c e fz)) (hT : T ≠ e) : w'.heap[b]? = some (.cells c T (0, 0)) :=
  (hg.block b (lt_of_heap h) (fun e1 => by
    obtain ⟨c2, fz2, h3⟩ := hr b e1.symm
    rw [h] at h3
    injection h3 with h3
    injection h3 with _ h4 _
    exact hT h4)).trans h

theorem Nd.Row.keepB {w w' : World} {B : Nat} {v : Value} {es : List Nd.E} {p : Nat → Prop} (h : Nd.Row w B v es) (hk : KeepB p w w') (hp : ∀ k, p k → ∀ c e fz, w.heap[k]? = some (.cells c e fz) → e ≠ 32 ∧ e ≠ 70) : Nd.Row w' B v es := by
  refine ⟨⟨h.own.1, ?_⟩, fun e he => ⟨fun hl => ?_, (h.ats e he).2⟩, h.apart⟩
  · rcases h.own.2 with h' | ⟨g, cap, cur, h1, h2, h3, h4⟩
    · exact .inl h'
    · exact .inr ⟨g, cap, cur, h1, h2, (hk.block g (lt_of_heap h3) (fun hpg => (hp g hpg _ _ _ h3).1 rfl)).trans h3, h4⟩
  · obtain ⟨g, o, cu, e1, e2, e3, e4⟩ := (h.ats e he).1 hl
    exact ⟨g, o, cu, e1, e2, (hk.block g (lt_of_heap e3) (fun hpg => (hp g hpg _ _ _ e3).2 rfl)).trans e3, e4⟩

theorem Nd.Row.kind {w : World} {B : Nat} {v : Value} {es : List Nd.E} (h : Nd.Row w B v es) : ∀ k, v.ownBlock = some k → ∃ c fz, w.heap[k]? = some (.cells c 32 fz) := by
  intro k hk
  rcases h.own.2 with ⟨rfl, _⟩ | ⟨g, cap, cur, rfl, _, hh, _⟩
  · cases hk
  · have : g = k := Option.some.inj hk
    subst this
    exact ⟨_, _, hh⟩

end Go.Proofs.YtnbpcgeojmikoaaGreatDoor

namespace Go.Proofs.YtnbpcgeojmikoaaGreatDoor
open Go.RowKit
set_option linter.unusedVariables false
set_option linter.unusedSimpArgs false

/-- Cells from there on. -/
def CellsAt (w : World) (b o : Nat) (cs : List Value) : Prop := ∀ j u, cs[j]? = some u → w.cell? ⟨b, o + j, none⟩ = some u

/-- A row that can be read: its cells, s for each of n. -/
structure Rd (w : World) (s : Nat) (v : Value) (n : Nat) (cs : List Value) : Prop where
  at_ : ∃ b o c, v = .slice (some ⟨b, o, none⟩) n c ∧ b < w.heap.size ∧ n ≤ c ∧ CellsAt w b o cs
  len : cs.length = n * s

theorem Rd.below {w w' : World} {s n : Nat} {v : Value} {cs : List Value} (h : Rd w s v n cs) (hb : Below w.heap.size w w') : Rd w' s v n cs := by
  obtain ⟨b, o, c, e1, e2, e3, e4⟩ := h.at_
  exact ⟨⟨b, o, c, e1, Nat.lt_of_lt_of_le e2 hb.size, e3, fun j u hj => (hb.cell (p := ⟨b, o + j, none⟩) e2).trans (e4 j u hj)⟩, h.len⟩

/-- One's own can be read, where it has an address. -/
theorem Rd.own {w : World} {B : Nat} {e : TypeId} {s n g c : Nat} {cs : List Value} (h : w.ownsRow B e s (.slice (some ⟨g, 0, none⟩) n c) n cs) : Rd w s (.slice (some ⟨g, 0, none⟩) n c) n cs := by
  rcases h.2 with ⟨e1, _⟩ | ⟨g', cap, cur, e1, _, h3, h4, _⟩
  · cases e1
  · cases e1
    refine ⟨⟨g, 0, c, rfl, lt_of_heap h3, h4, fun j u hj => ?_⟩, h.1⟩
    have hl : j < n * s := by rw [← h.1]; exact (List.getElem?_eq_some_iff.1 hj).1
    rw [Nat.zero_add, World.ownsRow.cellAt h j hl]
    exact hj

/-- append of what can be read to a row of one's own. -/
theorem run_own {P : Program} (W : World) (t ty e : TypeId) (i : TypeInfo) (z : Value) (size bytes : Nat) (h1 : P.underlying t = some (.slice e)) (h2 : P.info? e = some i) (h3 : i.zero = some z) (h4 : i.size = size) (h5 : i.bytes = bytes) (h6 : z.cells.size = size) (h7 : 0 < size)
    (B g c n m : Nat) (xs news : List Value) (x : Value) (hown : W.ownsRow B e size (.slice (some ⟨g, 0, none⟩) n c) n xs) (hx : Rd W size x m news) (h1c : ∀ u ∈ news, u.oneCell' = true) (b1 : n + m ≤ 1048576) (b2 : bytes ≤ 1000) (b3 : B ≤ W.heap.size) :
    ∃ g' c' w', (Builtin.append_ #[t, t] ty #[.slice (some ⟨g, 0, none⟩) n c, x]).run P W = .ok (.slice (some ⟨g', 0, none⟩) (n + m) c') w' ∧ w'.ownsRow B e size (.slice (some ⟨g', 0, none⟩) (n + m) c') (n + m) (xs ++ news) ∧ Below B W w' ∧ W.grownBy w' (some g) := by
  obtain ⟨b, o, cx, rfl, hb, hmc, hcs⟩ := hx.at_
  obtain ⟨v', w', hrun, r1, r2, _, r3⟩ := run_append_own_at (P := P) W B t ty e i z size bytes h1 h2 h3 h4 h5 h6 h7 _ n xs hown ⟨b, o, none⟩ m cx news hx.len (fun j u hj => by rw [add_plainW]; exact hcs j u hj) h1c (by unfold maxLen; omega) (by
    have : (n + m) * bytes ≤ 1048576 * 1000 := Nat.mul_le_mul b1 b2
    omega) b3
  rcases r1.2 with ⟨e1, _⟩ | ⟨g', cap', cur, e1, _⟩
  · subst e1
    rcases r3 with r3 | r3 <;> cases r3
  · subst e1
    exact ⟨g', cap', w', hrun, r1, (Below.refl B W).grown r2 b3 (fun k e => (hown.lt k e).1), r2⟩

/-- .. as a step of the walk. -/
theorem wpL_own {P : Program} (W : World) {ops : Array Oper} {rest : List Oper} {o : Oper} {a : Act} {Q : Exit → Act → World → Prop} (hgd : o.guard = none) (s x : Operand) (t : TypeId)
    (ho : o.op = .call { callee := .builtin .append, args := #[s, x], argTypes := #[t, t] }) (e : TypeId) (i : TypeInfo) (z : Value) (size bytes : Nat) (h1 : P.underlying t = some (.slice e)) (h2 : P.info? e = some i) (h3 : i.zero = some z) (h4 : i.size = size) (h5 : i.bytes = bytes) (h6 : z.cells.size = size) (h7 : 0 < size)
    (B g c n m : Nat) (xs news : List Value) (vx : Value) (hs : a.eval s = .slice (some ⟨g, 0, none⟩) n c) (hxe : a.eval x = vx) (hown : W.ownsRow B e size (.slice (some ⟨g, 0, none⟩) n c) n xs) (hx : Rd W size vx m news) (h1c : ∀ u ∈ news, u.oneCell' = true) (b1 : n + m ≤ 1048576) (b2 : bytes ≤ 1000) (b3 : B ≤ W.heap.size) (N : Nat) (hN : n + m = N) (ys : List Value) (hys : xs ++ news = ys)
    (h : ∀ g' c' w', w'.ownsRow B e size (.slice (some ⟨g', 0, none⟩) N c') N ys → Below B W w' → wpList P ops Q rest (a.put o.dst (.slice (some ⟨g', 0, none⟩) N c')) w') : wpList P ops Q (o :: rest) a W := by
  subst hN
  subst hys
  obtain ⟨g', c', w', hrun, r1, r2, _⟩ := run_own (P := P) W t o.type e i z size bytes h1 h2 h3 h4 h5 h6 h7 B g c n m xs news vx hown hx h1c b1 b2 b3
  refine wpList_plain hgd fun K hK => ?_
  unfold Oper.wp
  simp [execOp, ho, resolve, invoke, builtin, hs, hxe, hrun, Result.andThen]
  exact hK _ _ (h g' c' w' r1 r2)

/-- .. as a step of a region that draws its order. -/
theorem step_own {P : Program} {W : World} {ops : Array Oper} {o : Oper} {a : Act} {K : Act → World → Prop} {Q : Exit → Act → World → Prop} {E : Prop} (hgd : o.guard = none) (s x : Operand) (t : TypeId)
    (ho : o.op = .call { callee := .builtin .append, args := #[s, x], argTypes := #[t, t] }) (e : TypeId) (i : TypeInfo) (z : Value) (size bytes : Nat) (h1 : P.underlying t = some (.slice e)) (h2 : P.info? e = some i) (h3 : i.zero = some z) (h4 : i.size = size) (h5 : i.bytes = bytes) (h6 : z.cells.size = size) (h7 : 0 < size)
    (B g c n m : Nat) (xs news : List Value) (vx : Value) (hs : a.eval s = .slice (some ⟨g, 0, none⟩) n c) (hxe : a.eval x = vx) (hown : W.ownsRow B e size (.slice (some ⟨g, 0, none⟩) n c) n xs) (hx : Rd W size vx m news) (h1c : ∀ u ∈ news, u.oneCell' = true) (b1 : n + m ≤ 1048576) (b2 : bytes ≤ 1000) (b3 : B ≤ W.heap.size) (N : Nat) (hN : n + m = N) (ys : List Value) (hys : xs ++ news = ys)
    (h : ∀ g' c' w', w'.ownsRow B e size (.slice (some ⟨g', 0, none⟩) N c') N ys → Below B W w' → W.grownBy w' (some g) → K (a.put o.dst (.slice (some ⟨g', 0, none⟩) N c')) w') :
    if Region.wanted o (yielded ops a.tmps) = true then Oper.wp P o a W K Q else E := by
  subst hN
  subst hys
  have hw : Region.wanted o (yielded ops a.tmps) = true := by simp [Region.wanted, hgd]
  rw [if_pos hw]
  obtain ⟨g', c', w', hrun, r1, r2, r3⟩ := run_own (P := P) W t o.type e i z size bytes h1 h2 h3 h4 h5 h6 h7 B g c n m xs news vx hown hx h1c b1 b2 b3
  unfold Oper.wp
  simp [execOp, ho, resolve, invoke, builtin, hs, hxe, hrun, Result.andThen]
  exact h g' c' w' r1 r2 r3

/-- A new row of none. -/
theorem own_new (W : World) (e : TypeId) (s : Nat) : (W.alloc (.cells #[] e)).ownsRow W.heap.size e s (.slice (some ⟨W.heap.size, 0, none⟩) 0 0) 0 [] :=
  ⟨by simp, .inr ⟨W.heap.size, 0, #[], rfl, Nat.le_refl _, heap_alloc_new _ _, Nat.le_refl _, Nat.zero_le _, by simp, by simp⟩⟩

theorem own_base {w : World} {B B' n : Nat} {v : Value} {xs : List Value} {e : TypeId} {s : Nat} (h : w.ownsRow B' e s v n xs) (hB : B ≤ B') : w.ownsRow B e s v n xs := by
  refine ⟨h.1, ?_⟩
  rcases h.2 with h' | ⟨g, cap, cur, h1, h2, h3⟩
  · exact .inl h'
  · exact .inr ⟨g, cap, cur, h1, Nat.le_trans hB h2, h3⟩

/-- From k on. -/
theorem Rd.from {w : World} {s n c b o : Nat} {cs : List Value} (h : Rd w s (.slice (some ⟨b, o, none⟩) n c) n cs) {k : Nat} (hk : k ≤ n) : Rd w s (.slice (some (if c = k then ⟨b, o, none⟩ else ⟨b, o + k * s, none⟩)) (n - k) (c - k)) (n - k) (cs.drop (k * s)) := by
  obtain ⟨b', o', c', e, h1, h2, h3⟩ := h.at_
  cases e
  have hl : (cs.drop (k * s)).length = (n - k) * s := by rw [List.length_drop, h.len, Nat.sub_mul]
  split
  · have e0 : cs.drop (k * s) = [] := List.eq_nil_of_length_eq_zero (by rw [hl, show n - k = 0 by omega, Nat.zero_mul])
    exact ⟨⟨b, o, _, rfl, h1, by omega, fun j u hj => by rw [e0] at hj; cases hj⟩, hl⟩
  · exact ⟨⟨b, o + k * s, _, rfl, h1, by omega, fun j u hj => by
      rw [List.getElem?_drop] at hj
      rw [Nat.add_assoc]
      exact h3 _ _ hj⟩, hl⟩

/-- The first k. -/
theorem Rd.upto {w : World} {s n c b o : Nat} {cs : List Value} (h : Rd w s (.slice (some ⟨b, o, none⟩) n c) n cs) {k : Nat} (hk : k ≤ n) : Rd w s (.slice (some ⟨b, o, none⟩) k c) k (cs.take (k * s)) := by
  obtain ⟨b', o', c', e, h1, h2, h3⟩ := h.at_
  cases e
  refine ⟨⟨b, o, _, rfl, h1, by omega, fun j u hj => ?_⟩, by rw [List.length_take, h.len]; exact Nat.min_eq_left (Nat.mul_le_mul_right _ hk)⟩
  rw [List.getElem?_take] at hj
  split at hj
  · exact h3 _ _ hj
  · cases hj

/-- A block made at once. -/
theorem Rd.new (W : World) (e : TypeId) (s : Nat) (cs : List Value) (n : Nat) (h : cs.length = n * s) : Rd (W.alloc (.cells cs.toArray e)) s (.slice (some ⟨W.heap.size, 0, none⟩) n n) n cs :=
  ⟨⟨W.heap.size, 0, n, rfl, by simp, Nat.le_refl _, fun j u hj => by rw [Lib.cell_of_heap (heap_alloc_new W _), Nat.zero_add]; simpa using hj⟩, h⟩

/-- What lies elsewhere stays where a row grows. -/
theorem Rd.grown {w w' : World} {s n b o c : Nat} {cs : List Value} {g : Nat} (h : Rd w s (.slice (some ⟨b, o, none⟩) n c) n cs) (hg : w.grownBy w' (some g)) (hne : ¬ g = b) : Rd w' s (.slice (some ⟨b, o, none⟩) n c) n cs := by
  obtain ⟨b', o', c', e, h1, h2, h3⟩ := h.at_
  cases e
  exact ⟨⟨b, o, c, rfl, Nat.lt_of_lt_of_le h1 hg.size, h2, fun j u hj => cell_grownR hg (h3 j u hj) h1 (fun e => hne (by cases e; rfl))⟩, h.len⟩

/-- Texts. -/
theorem keyV_cell (l : List ByteArray) : ∀ u ∈ keyV l, u.oneCell' = true := by
  intro u hu
  obtain ⟨s, _, rfl⟩ := List.mem_map.1 hu
  rfl

theorem atC_cell (l : List At) : ∀ u ∈ atC l, u.oneCell' = true := by
  intro u hu
  obtain ⟨x, _, he⟩ := List.mem_flatMap.1 hu
  simp at he
  rcases he with rfl | rfl <;> rfl

theorem keyV_len (l : List ByteArray) : (keyV l).length = l.length := by simp [keyV]

theorem atC_lenC (l : List At) : (atC l).length = l.length * 2 := by
  induction l with
  | nil => rfl
  | cons x l ih => show (atC l).length + 2 = _; rw [ih, List.length_cons]; omega

theorem atC_drop (l : List At) : ∀ k, (atC l).drop (k * 2) = atC (l.drop k) := by
  induction l with
  | nil => intro k; simp [atC]
  | cons x l ih =>
    intro k
    cases k with
    | zero => rfl
    | succ k =>
      have e : atC (x :: l) = .string x.name :: .string x.value :: atC l := rfl
      rw [e, show (k + 1) * 2 = k * 2 + 1 + 1 by omega, List.drop_succ_cons, List.drop_succ_cons, List.drop_succ_cons]
      exact ih k

theorem atC_take (l : List At) : ∀ k, (atC l).take (k * 2) = atC (l.take k) := by
  induction l with
  | nil => intro k; simp [atC]
  | cons x l ih =>
    intro k
    cases k with
    | zero => rfl
    | succ k =>
      have e : atC (x :: l) = .string x.name :: .string x.value :: atC l := rfl
      rw [e, show (k + 1) * 2 = k * 2 + 1 + 1 by omega, List.take_succ_cons, List.take_succ_cons, List.take_succ_cons, ih k]
      rfl

theorem Rd.key {w : World} {n : Nat} {v : Value} {l : List ByteArray} (h : Rd w 1 v n (keyV l)) {i : Nat} (hi : i < l.length) : ∃ b o c, v = .slice (some ⟨b, o, none⟩) n c ∧ b < w.heap.size ∧ n ≤ c ∧ w.cell? ⟨b, o + i, none⟩ = some (.string l[i]) := by
  obtain ⟨b, o, c, e, h1, h2, h3⟩ := h.at_
  exact ⟨b, o, c, e, h1, h2, h3 i _ (by simp [keyV, hi])⟩

theorem Rd.pair {w : World} {n : Nat} {v : Value} {l : List At} (h : Rd w 2 v n (atC l)) {i : Nat} (hi : i < l.length) : ∃ b o c, v = .slice (some ⟨b, o, none⟩) n c ∧ b < w.heap.size ∧ n ≤ c ∧ w.cell? ⟨b, o + i * 2, none⟩ = some (.string l[i].name) ∧ w.cell? ⟨b, o + i * 2 + 1, none⟩ = some (.string l[i].value) := by
  obtain ⟨b, o, c, e, h1, h2, h3⟩ := h.at_
  obtain ⟨k1, k2⟩ := atC_get l i hi
  exact ⟨b, o, c, e, h1, h2, h3 _ _ k1, h3 (i * 2 + 1) _ k2⟩

/-- .. as a row of attrs. -/
theorem Rd.ats {w : World} {n : Nat} {a : Option Addr} {c : Nat} {l : List At} (h : Rd w 2 (.slice a n c) n (atC l)) : AtRow w a l := by
  intro i hi
  obtain ⟨b, o, c', e, h1, h2, h3, h4⟩ := h.pair hi
  cases e
  exact ⟨b, o, rfl, h1, h3, h4⟩

/-- A row whose cells can be read, of none too, wherever it lies. -/
structure Sr (w : World) (s : Nat) (v : Value) (n : Nat) (cs : List Value) : Prop where
  at_ : ∃ a c, v = .slice a n c ∧ (0 < n → ∃ b o, a = some ⟨b, o, none⟩ ∧ b < w.heap.size ∧ CellsAt w b o cs)
  len : cs.length = n * s

theorem Sr.below {w w' : World} {s n : Nat} {v : Value} {cs : List Value} (h : Sr w s v n cs) (hb : Below w.heap.size w w') : Sr w' s v n cs := by
  obtain ⟨a, c, e1, e2⟩ := h.at_
  refine ⟨⟨a, c, e1, fun hn => ?_⟩, h.len⟩
  obtain ⟨b, o, f1, f2, f3⟩ := e2 hn
  exact ⟨b, o, f1, Nat.lt_of_lt_of_le f2 hb.size, fun j u hj => (hb.cell (p := ⟨b, o + j, none⟩) f2).trans (f3 j u hj)⟩

theorem AtRow.sr {w : World} {a : Option Addr} {l : List At} {n c : Nat} (h : AtRow w a l) (hn : l.length = n) : Sr w 2 (.slice a n c) n (atC l) := by
  refine ⟨⟨a, c, rfl, fun h0 => ?_⟩, by rw [atC_lenC, hn]⟩
  obtain ⟨b, o, e, hb, _, _⟩ := h 0 (by omega)
  refine ⟨b, o, e, hb, fun j u hj => ?_⟩
  have hl : j < (atC l).length := (List.getElem?_eq_some_iff.1 hj).1
  rw [atC_lenC] at hl
  obtain ⟨b2, o2, e2, _, c1, c2⟩ := h (j / 2) (by omega)
  rw [e] at e2
  obtain ⟨rfl, rfl⟩ : b = b2 ∧ o = o2 := by cases e2; exact ⟨rfl, rfl⟩
  obtain ⟨k1, k2⟩ := atC_get l (j / 2) (by omega)
  rcases Nat.mod_two_eq_zero_or_one j with hm | hm
  · have ej : j / 2 * 2 = j := by omega
    rw [ej] at k1 c1
    rw [k1] at hj
    cases hj
    exact c1
  · have ej : j / 2 * 2 + 1 = j := by omega
    rw [ej] at k2
    rw [k2] at hj
    cases hj
    rw [Nat.add_assoc, ej] at c2
    exact c2

/-- append of such a row, as a step of a region that draws its order. -/
theorem step_src {P : Program} {W : World} {ops : Array Oper} {o : Oper} {a : Act} {K : Act → World → Prop} {Q : Exit → Act → World → Prop} {E : Prop} (hgd : o.guard = none) (s x : Operand) (t : TypeId)
    (ho : o.op = .call { callee := .builtin .append, args := #[s, x], argTypes := #[t, t] }) (e : TypeId) (i : TypeInfo) (z : Value) (size bytes : Nat) (h1 : P.underlying t = some (.slice e)) (h2 : P.info? e = some i) (h3 : i.zero = some z) (h4 : i.size = size) (h5 : i.bytes = bytes) (h6 : z.cells.size = size) (h7 : 0 < size)
    (B g c n m : Nat) (xs news : List Value) (vx : Value) (hs : a.eval s = .slice (some ⟨g, 0, none⟩) n c) (hxe : a.eval x = vx) (hown : W.ownsRow B e size (.slice (some ⟨g, 0, none⟩) n c) n xs) (hx : Sr W size vx m news) (h1c : ∀ u ∈ news, u.oneCell' = true) (b1 : n + m ≤ 1048576) (b2 : bytes ≤ 1000) (b3 : B ≤ W.heap.size) (N : Nat) (hN : n + m = N) (ys : List Value) (hys : xs ++ news = ys)
    (h : ∀ g' c' w', w'.ownsRow B e size (.slice (some ⟨g', 0, none⟩) N c') N ys → Below B W w' → W.grownBy w' (some g) → K (a.put o.dst (.slice (some ⟨g', 0, none⟩) N c')) w') :
    if Region.wanted o (yielded ops a.tmps) = true then Oper.wp P o a W K Q else E := by
  obtain ⟨ax, cx, rfl, hpos⟩ := hx.at_
  rcases Nat.eq_zero_or_pos m with h0 | h0
  · subst h0
    have hw : Region.wanted o (yielded ops a.tmps) = true := by simp [Region.wanted, hgd]
    rw [if_pos hw]
    have hnews : news = [] := List.eq_nil_of_length_eq_zero (by rw [hx.len, Nat.zero_mul])
    subst hnews
    rw [List.append_nil] at hys
    subst hys
    subst hN
    have hsrc : Src P i.size t (.slice ax 0 cx) 0 [] W := by
      cases ax with
      | none => exact Src.ofNil W h1 cx
      | some ad => exact Src.ofSlice W h1 ad 0 cx [] (by simp) (fun j u h => by simp at h) (fun u h => by cases h)
    have hle : n ≤ c := by
      rcases hown.2 with ⟨e1, _⟩ | ⟨g', cap, cur, e1, _, _, hc, _⟩
      · cases e1
      · cases e1
        exact hc
    have hr := run_append_nothing (P := P) W t t o.type e i h1 h2 (some ⟨g, 0, none⟩) n c hle _ hsrc
    unfold Oper.wp
    simp [execOp, ho, resolve, invoke, builtin, hs, hxe, hr, Result.andThen]
    exact h g c W (by rw [Nat.add_zero]; exact hown) (Below.refl _ _) ⟨rfl, rfl, rfl, Nat.le_refl _, fun i _ _ => rfl⟩
  · obtain ⟨b, o', rfl, hb, hcs⟩ := hpos h0
    have hw : Region.wanted o (yielded ops a.tmps) = true := by simp [Region.wanted, hgd]
    rw [if_pos hw]
    subst hN
    subst hys
    obtain ⟨v', w', hrun, r1, r2, _, r3⟩ := run_append_own_at (P := P) W B t o.type e i z size bytes h1 h2 h3 h4 h5 h6 h7 _ n xs hown ⟨b, o', none⟩ m cx news hx.len (fun j u hj => by rw [add_plainW]; exact hcs j u hj) h1c (by unfold maxLen; omega) (by
      have : (n + m) * bytes ≤ 1048576 * 1000 := Nat.mul_le_mul b1 b2
      omega) b3
    rcases r1.2 with ⟨e1, _⟩ | ⟨g', cap', cur, e1, _⟩
    · subst e1
      rcases r3 with r3 | r3 <;> cases r3
    · subst e1
      unfold Oper.wp
      simp [execOp, ho, resolve, invoke, builtin, hs, hxe, hrun, Result.andThen]
      exact h g' cap' w' r1 ((Below.refl B W).grown r2 b3 (fun k e => (hown.lt k e).1)) r2

end Go.Proofs.YtnbpcgeojmikoaaGreatDoor

namespace Go.Proofs.YtnbpcgeojmikoaaGreatDoor
open Go.RowKit
set_option linter.unusedVariables false
set_option linter.unusedSimpArgs false

/-- Is the one text ahead of the other? -/
def ltB (a b : ByteArray) : Bool := Op.bytesLess a.toList b.toList

/-- What an attr's prefix means there; nothing where it has none. -/
noncomputable def atMean (ts : List Tk) (k : Nat) (x : At) : ByteArray := if (preS x.name).size = 0 then ⟨#[]⟩ else (meanF ts k (preS x.name)).getD ⟨#[]⟩

/-- By meanings, then by locals. -/
noncomputable def aheadF (ts : List Tk) (k : Nat) (x y : At) : Bool := open Classical in ltB (atMean ts k x) (atMean ts k y) || (decide (atMean ts k x = atMean ts k y) && ltB (locS x.name) (locS y.name))

/-- What follows from the three comparisons. -/
theorem ahead_of {ts : List Tk} {k : Nat} {x y : At} {M N : ByteArray} (h1 : atMean ts k x = M) (h2 : atMean ts k y = N) : aheadF ts k x y = (Op.bytesLess M.toList N.toList || ((M.toList == N.toList) && Op.bytesLess (locS x.name).toList (locS y.name).toList)) := by
  unfold aheadF
  rw [h1, h2, str_beq]
  unfold ltB
  congr 2

theorem e_lit : (⟨#[]⟩ : ByteArray).toList = [] := by rw [ByteArray.toList_eq]

set_option maxRecDepth 4000 in
set_option maxHeartbeats 4000000 in
theorem c_spec_l11Ahead (a : Option Addr) (cap : Nat) (ts : List Tk) (k : Nat) (x y : At) (w : World) (hR : TkRow w a ts) (hT : TreeP ts) (hk : k < ts.length) (hn : ts.length ≤ 1048576) (hz : TksSz 1048576 ts) (hx : x.name.size ≤ 1048576) (hy : y.name.size ≤ 1048576) :
    Calls Tryz.prog 101 #[.slice a ts.length cap, .int .i64 (k : Int), .agg #[.string x.name, .string x.value], .agg #[.string y.name, .string y.value]] w fun e w' => e = .returned (.bool (aheadF ts k x y)) ∧ Below w.heap.size w w' := by
  have HB := hid (((Below.refl w.heap.size w).alloc (Nat.le_refl _) (.cells #[.string x.name, .string x.value] 70)))
  have CP := hid (fun wx => cPartsX x.name wx hx)
  have CQ := hid (fun wx => cPartsX y.name wx hy)
  have CM := hid (fun wx (hb : Below w.heap.size w wx) => c_spec_l9Meaning a cap ts k (preS x.name) wx (hR.below hb) hT hk hn hz (preS_sz hx))
  have CN := hid (fun wx (hb : Below w.heap.size w wx) => c_spec_l9Meaning a cap ts k (preS y.name) wx (hR.below hb) hT hk hn hz (preS_sz hy))
  have A := hid (fun (M N : ByteArray) (h1 : atMean ts k x = M) (h2 : atMean ts k y = N) => ahead_of h1 h2)
  have E1 := empty_is (preS x.name)
  have E2 := empty_is (preS y.name)
  have M1 := hid (show (preS x.name).size = 0 → atMean ts k x = ⟨#[]⟩ from fun h => by unfold atMean; rw [if_pos h])
  have M2 := hid (show ¬ (preS x.name).size = 0 → atMean ts k x = (meanF ts k (preS x.name)).getD ⟨#[]⟩ from fun h => by unfold atMean; rw [if_neg h])
  have N1 := hid (show (preS y.name).size = 0 → atMean ts k y = ⟨#[]⟩ from fun h => by unfold atMean; rw [if_pos h])
  have N2 := hid (show ¬ (preS y.name).size = 0 → atMean ts k y = (meanF ts k (preS y.name)).getD ⟨#[]⟩ from fun h => by unfold atMean; rw [if_neg h])
  have Z := aheadF ts k x y
  obtain ⟨V, hV⟩ : ∃ V, aheadF ts k x y = V := ⟨_, rfl⟩
  rw [hV] at A ⊢
  have eh : (w.alloc (.cells #[.string x.name, .string x.value] 70)).heap.size = w.heap.size + 1 := by simp
  have hbx := box_two (w.alloc (.cells #[.string x.name, .string x.value] 70)) (.string y.name) (.string y.value) 70
  rw [eh] at hbx
  have HBX := hid hbx
  clear hV hR hT hk hn hz hx hy eh hbx Z
  go_enter Tryz.func101, Tryz.ntmps101
  go_wp2_with fail
  refine (CP.out _).mono ?_
  rintro e w1 ⟨rfl, hb1⟩
  have HBY := hid (HB.out.alloc HB.out.size (.cells #[.string y.name, .string y.value] 70))
  have HX := hid (bb HBY.out hb1)
  have d1 := (hb1.cell (p := ⟨w.heap.size + 1, 0, none⟩) HBX.out.2.2).trans HBX.out.1
  clear hb1 HBX HB HBY CP
  go_wp2_with fail
  refine (CQ.out _).mono ?_
  rintro e w2 ⟨rfl, hb2⟩
  have HX2 := hid (bb HX.out hb2)
  clear hb2 HX d1 CQ
  generalize preS x.name = P at *
  generalize preS y.name = Q at *
  generalize locS x.name = L at *
  generalize locS y.name = R at *
  by_cases hp : P.size = 0
  · have HM := hid (M1.out hp)
    rw [decide_eq_true hp] at E1
    clear hp
    by_cases hq : Q.size = 0
    · have HN := hid (N1.out hq)
      rw [decide_eq_true hq] at E2
      clear hq
      have HA := A.out _ _ HM.out HN.out
      simp only [e_lit] at HA
      have HA := hid HA
      clear A HM HN CM CN M1 M2 N1 N2
      have HF := hid (show V = Op.bytesLess L.toList R.toList by rw [HA.out]; rfl)
      clear HA
      go_wp2_with fail
      go_ret
      exact ⟨by rw [HF.out]; rfl, HX2.out⟩
    · have HN := hid (N2.out hq)
      rw [decide_eq_false hq] at E2
      clear hq
      go_wp2_with fail
      refine (CN.out _ HX2.out).mono ?_
      rintro e w9 ⟨rfl, hb9⟩
      have HX9 := hid (bb HX2.out hb9)
      clear hb9
      have HA := A.out _ _ HM.out HN.out
      simp only [e_lit] at HA
      have HA := hid HA
      generalize (meanF ts k Q).getD ⟨#[]⟩ = N at *
      clear A HM HN CM CN M1 M2 N1 N2
      cases c1 : Op.bytesLess [] N.toList with
      | true =>
        have HF := hid (show V = true by rw [HA.out, c1]; rfl)
        go_wp2_with fail
        go_ret
        exact ⟨by rw [HF.out]; rfl, HX9.out⟩
      | false =>
        cases c2 : ([] == N.toList) with
        | false =>
          have HF := hid (show V = false by rw [HA.out, c1, c2]; rfl)
          go_wp2_with fail
          go_ret
          exact ⟨by rw [HF.out]; rfl, HX9.out⟩
        | true =>
          have HF := hid (show V = Op.bytesLess L.toList R.toList by rw [HA.out, c1, c2]; rfl)
          go_wp2_with fail
          go_ret
          exact ⟨by rw [HF.out]; rfl, HX9.out⟩
  · have HM := hid (M2.out hp)
    rw [decide_eq_false hp] at E1
    clear hp
    go_wp2_with fail
    refine (CM.out _ HX2.out).mono ?_
    rintro e w3 ⟨rfl, hb3⟩
    have HX3 := hid (bb HX2.out hb3)
    clear hb3
    by_cases hq : Q.size = 0
    · have HN := hid (N1.out hq)
      rw [decide_eq_true hq] at E2
      clear hq
      have HA := A.out _ _ HM.out HN.out
      simp only [e_lit] at HA
      generalize (meanF ts k P).getD ⟨#[]⟩ = M at *
      clear A HM HN CM CN M1 M2 N1 N2
      have c1 : Op.bytesLess M.toList [] = false := by cases M.toList <;> rfl
      have c3 : (M.toList == []) = M.toList.isEmpty := by cases M.toList <;> rfl
      rw [c1, c3] at HA
      cases c2 : M.toList.isEmpty with
      | false =>
        have HF := hid (show V = false by rw [HA, c2]; rfl)
        clear HA
        go_wp2_with fail
        go_ret
        exact ⟨by rw [HF.out]; rfl, HX3.out⟩
      | true =>
        have HF := hid (show V = Op.bytesLess L.toList R.toList by rw [HA, c2]; rfl)
        clear HA
        go_wp2_with fail
        go_ret
        exact ⟨by rw [HF.out]; rfl, HX3.out⟩
    · have HN := hid (N2.out hq)
      rw [decide_eq_false hq] at E2
      clear hq
      go_wp2_with fail
      refine (CN.out _ HX3.out).mono ?_
      rintro e w9 ⟨rfl, hb9⟩
      have HX9 := hid (bb HX3.out hb9)
      clear hb9
      have HA := A.out _ _ HM.out HN.out
      have HA := hid HA
      generalize (meanF ts k P).getD ⟨#[]⟩ = M at *
      generalize (meanF ts k Q).getD ⟨#[]⟩ = N at *
      clear A HM HN CM CN M1 M2 N1 N2
      cases c1 : Op.bytesLess M.toList N.toList with
      | true =>
        have HF := hid (show V = true by rw [HA.out, c1]; rfl)
        go_wp2_with fail
        go_ret
        exact ⟨by rw [HF.out]; rfl, HX9.out⟩
      | false =>
        cases c2 : (M.toList == N.toList) with
        | false =>
          have HF := hid (show V = false by rw [HA.out, c1, c2]; rfl)
          go_wp2_with fail
          go_ret
          exact ⟨by rw [HF.out]; rfl, HX9.out⟩
        | true =>
          have HF := hid (show V = Op.bytesLess L.toList R.toList by rw [HA.out, c1, c2]; rfl)
          go_wp2_with fail
          go_ret
          exact ⟨by rw [HF.out]; rfl, HX9.out⟩

end Go.Proofs.YtnbpcgeojmikoaaGreatDoor

namespace Go.Proofs.YtnbpcgeojmikoaaGreatDoor
open Go.RowKit
set_option linter.unusedVariables false
set_option linter.unusedSimpArgs false

/-- How many stand ahead of it. -/
def lowN (l : List ByteArray) (s : ByteArray) : Nat := (l.takeWhile fun x => ltB x s).length

theorem lowN_is {l : List ByteArray} {s : ByteArray} {k : Nat} (hk : k ≤ l.length) (h1 : ∀ x ∈ l.take k, ltB x s = true) (h2 : ∀ h : k < l.length, ltB l[k] s = false) : lowN l s = k := by
  unfold lowN
  induction l generalizing k with
  | nil =>
    have : k = 0 := by simpa using hk
    subst this
    rfl
  | cons x l ih =>
    cases k with
    | zero =>
      have h := h2 (by simp)
      simp only [List.getElem_cons_zero] at h
      rw [List.takeWhile_cons, h]
      rfl
    | succ k =>
      rw [List.takeWhile_cons, h1 x (by simp)]
      simp only [if_true, List.length_cons]
      rw [ih (by simpa using hk) (fun y hy => h1 y (by simp [hy])) (fun h => by have := h2 (by simpa using h); simpa using this)]

/-- With it, in its place. -/
noncomputable def putS (l : List ByteArray) (s : ByteArray) : List ByteArray := open Classical in if l[lowN l s]? = some s then l else l.take (lowN l s) ++ s :: l.drop (lowN l s)

theorem putS_there {l : List ByteArray} {s : ByteArray} {k : Nat} (h : lowN l s = k) (h1 : l[k]? = some s) : putS l s = l := by unfold putS; rw [h, if_pos h1]

theorem putS_new {l : List ByteArray} {s : ByteArray} {k : Nat} (h : lowN l s = k) (h1 : ¬ l[k]? = some s) : putS l s = l.take k ++ s :: l.drop k := by unfold putS; rw [h, if_neg h1]

theorem putS_len (l : List ByteArray) (s : ByteArray) : (putS l s).length ≤ l.length + 1 ∧ l.length ≤ (putS l s).length := by
  unfold putS
  split
  · omega
  · rw [List.length_append, List.length_cons, List.length_take, List.length_drop]
    omega

theorem putS_mem {l : List ByteArray} {s x : ByteArray} (h : x ∈ putS l s) : x ∈ l ∨ x = s := by
  unfold putS at h
  split at h
  · exact .inl h
  · rcases List.mem_append.1 h with h' | h'
    · exact .inl (List.mem_of_mem_take h')
    · rcases List.mem_cons.1 h' with h'' | h''
      · exact .inr h''
      · exact .inl (List.mem_of_mem_drop h'')

theorem infoS : (Tryz.prog.info? 9).map (fun i => (i.zero, i.size, i.bytes)) = some (some (.string ⟨#[]⟩), 1, 16) := by kernel_rfl

theorem keyV_app (l m : List ByteArray) : keyV (l ++ m) = keyV l ++ keyV m := by simp [keyV]

theorem sl_fromS (b o L cap k : Nat) (h : k ≤ L) (hL : L ≤ cap) (W : World) : (Instr.slice 38 (.slice (some ⟨b, o, none⟩) L cap) (some (.int .i64 k)) none none).run Tryz.prog W = .ok (.slice (some (if cap = k then ⟨b, o, none⟩ else ⟨b, o + k * 1, none⟩)) (L - k) (cap - k)) W := by
  have h' : (k : Int) ≤ L := by omega
  have h2 : (L : Int) ≤ cap := by omega
  go_simp
  by_cases e : cap = k <;> simp [e, Addr.add]

theorem sl_uptoS (b o L cap k : Nat) (h : k ≤ L) (hL : L ≤ cap) (W : World) : (Instr.slice 38 (.slice (some ⟨b, o, none⟩) L cap) none (some (.int .i64 k)) none).run Tryz.prog W = .ok (.slice (some ⟨b, o, none⟩) k cap) W := by
  have h' : (k : Int) ≤ L := by omega
  have h2 : (k : Int) ≤ cap := by omega
  have h3 : ¬ cap < k := by omega
  go_simp

set_option maxRecDepth 8000 in
set_option maxHeartbeats 4000000 in
theorem c_spec_l11Put (l : List ByteArray) (v : Value) (s : ByteArray) (w : World) (hR : Rd w 1 v l.length (keyV l)) (hn : l.length ≤ 100000) :
    Calls Tryz.prog 100 #[v, .string s] w fun e w' => ∃ v', e = .returned v' ∧ Rd w' 1 v' (putS l s).length (keyV (putS l s)) ∧ Below w.heap.size w w' := by
  obtain ⟨b, o, c, rfl, hb, hc, _⟩ := hR.at_
  obtain ⟨i0, hi, hz0, hz1, hz2⟩ := info_parts infoS
  have HI := hid (And.intro hi (And.intro hz0 (And.intro hz1 hz2)))
  have HR := hid hR
  clear hi hz0 hz1 hz2 hR hb
  obtain ⟨n, hnn⟩ : ∃ n, l.length = n := ⟨_, rfl⟩
  have HN := hid hnn
  rw [hnn] at hn hc HR ⊢
  clear hnn
  go_enter Tryz.func100, Tryz.ntmps100
  go_wp2_with fail
  go_loop [5] (fun x => ∃ k : Nat, x = .int .i64 (k : Int) ∧ k ≤ n ∧ Hid (∀ x ∈ l.take k, ltB x s = true)) (fun x => n - (intOf x).toNat)
  case atStart => exact ⟨0, rfl, Nat.zero_le _, fun x hx => absurd hx (by simp)⟩
  case round =>
    obtain ⟨k, rfl, hk, HA⟩ := hrel
    have hkn : (k : Int) ≤ (n : Int) := by omega
    by_cases hlt : k < n
    case neg =>
      have hkE : k = n := by omega
      have HPE := hid (putS_new (lowN_is (by rw [HN.out]; exact hk) HA.out (fun h => absurd h (by rw [HN.out]; exact hlt))) (show ¬ l[k]? = some s by rw [List.getElem?_eq_none (by rw [HN.out]; omega)]; exact fun h => by cases h))
      have hkl : ¬ (k : Int) < (n : Int) := by omega
      clear hkE
      have HRF := hid (HR.out.from hk)
      have HRU := hid (HR.out.upto hk)
      simp only [Nat.mul_one] at HRF HRU
      rw [show (keyV l).drop k = keyV (l.drop k) by simp [keyV]] at HRF
      rw [show (keyV l).take k = keyV (l.take k) by simp [keyV]] at HRU
      have hfr := sl_fromS b o n c k hk hc
      simp only [Nat.mul_one] at hfr
      have hup := sl_uptoS b o n c k hk hc
      generalize (if c = k then (⟨b, o, none⟩ : Addr) else ⟨b, o + k, none⟩) = A1 at *
      obtain ⟨hi, hz0, hz1, hz2⟩ := HI.out
      have HB1 := hid ((Below.refl w.heap.size w).alloc (Nat.le_refl _) (.cells #[] 9))
      have HO1 := hid (own_new w 9 1)
      have HF1 := hid (HRF.out.below HB1.out)
      go_wp2_with (at_builtin; refine wpL_own _ rfl _ _ _ rfl 9 i0 _ 1 16 Tryz.underlying38 hi hz0 hz1 hz2 rfl (by decide) w.heap.size w.heap.size 0 0 (n - k) [] (keyV (l.drop k)) _ rfl rfl HO1.out HF1.out (keyV_cell _) (by omega) (by omega) HB1.out.size (n - k) (by omega) (keyV (l.drop k)) rfl ?_)
      intro g2 c2 w2 ho2 hb2
      have HB2 := hid (HB1.out.trans hb2)
      have HRS := hid (Rd.own ho2)
      clear ho2 hb2 hfr HO1 HF1
      have HB3 := hid ((Below.refl w2.heap.size w2).alloc (Nat.le_refl _) (.cells #[] 9))
      have HO3 := hid (own_new w2 9 1)
      have HU3 := hid ((HRU.out.below HB2.out).below HB3.out)
      go_wp2_with (at_builtin; refine wpL_own _ rfl _ _ _ rfl 9 i0 _ 1 16 Tryz.underlying38 hi hz0 hz1 hz2 rfl (by decide) w2.heap.size w2.heap.size 0 0 k [] (keyV (l.take k)) _ rfl rfl HO3.out HU3.out (keyV_cell _) (by omega) (by omega) HB3.out.size k (by omega) (keyV (l.take k)) rfl ?_)
      intro g4 c4 w4 ho4 hb4
      have HB4 := hid (HB3.out.trans hb4)
      have HO4 := hid ho4
      clear ho4 hb4 hup HO3 HU3
      have HB5 := hid ((Below.refl w4.heap.size w4).alloc (Nat.le_refl _) (.cells #[.string s] 9))
      have HO5 := hid (ownsRow_below HO4.out HB5.out)
      have HN5 := hid (Rd.new w4 9 1 [.string s] 1 rfl)
      go_wp2_with (at_builtin; refine wpL_own _ rfl _ _ _ rfl 9 i0 _ 1 16 Tryz.underlying38 hi hz0 hz1 hz2 rfl (by decide) w2.heap.size g4 c4 k 1 (keyV (l.take k)) [.string s] _ rfl rfl HO5.out HN5.out (keyV_cell [s]) (by omega) (by omega) (Nat.le_trans HB4.out.size HB5.out.size) (k + 1) rfl (keyV (l.take k ++ [s])) (by rw [keyV_app]; rfl) ?_)
      intro g6 c6 w6 ho6 hb6
      have HB6 := hid ((HB4.out.trans (HB5.out.mono HB4.out.size)).trans hb6)
      have HO6 := hid ho6
      clear ho6 hb6 HO5 HN5 HO4
      have HR6 := hid (HRS.out.below HB6.out)
      go_wp2_with (at_builtin; refine wpL_own _ rfl _ _ _ rfl 9 i0 _ 1 16 Tryz.underlying38 hi hz0 hz1 hz2 rfl (by decide) w2.heap.size g6 c6 (k + 1) (n - k) (keyV (l.take k ++ [s])) (keyV (l.drop k)) _ rfl rfl HO6.out HR6.out (keyV_cell _) (by omega) (by omega) HB6.out.size (n + 1) (by omega) (keyV (l.take k ++ s :: l.drop k)) (by rw [← keyV_app, List.append_assoc]; rfl) ?_)
      intro g8 c8 w8 ho8 hb8
      have HB8 := hid (HB2.out.trans ((HB6.out.trans hb8).mono HB2.out.size))
      have HR8 := hid (Rd.own ho8)
      clear ho8 hb8
      have HLN := hid (show (l.take k ++ s :: l.drop k).length = n + 1 by
        rw [List.length_append, List.length_cons, List.length_take, List.length_drop, HN.out]
        omega)
      go_wp2_with fail
      go_ret
      exact ⟨_, rfl, by rw [HPE.out, HLN.out]; exact HR8.out, HB8.out⟩
    have hks : k < l.length := by rw [HN.out]; exact hlt
    have hkl : (k : Int) < (n : Int) := by omega
    obtain ⟨b', o', c', e', hb, _, hcell⟩ := HR.out.key hks
    obtain ⟨rfl, rfl⟩ : b = b' ∧ o = o' := by cases e'; exact ⟨rfl, rfl⟩
    clear e'
    cases hq : ltB l[k] s with
    | true =>
      have HA2 := hid (show ∀ x ∈ l.take (k + 1), ltB x s = true from fun x hx => by
        rw [take_snocN hks] at hx
        rcases List.mem_append.1 hx with h' | h'
        · exact HA.out x h'
        · rw [List.mem_singleton.1 h']; exact hq)
      unfold ltB at hq
      generalize l[k] = y at *
      go_wp2_with fail
      go_round
      case rel => exact ⟨k + 1, by go_num, by omega, HA2.out⟩
      case measure => simp [intOf]; omega
    | false =>
      have HLW := hid (lowN_is (by rw [HN.out]; exact hk) HA.out (fun h => hq))
      have HLG := hid (List.getElem?_eq_getElem hks)
      unfold ltB at hq
      cases hqe : (l[k].toList == s.toList) with
      | true =>
        have hes : l[k] = s := by
          rw [str_beq] at hqe
          simpa using hqe
        have HPE := hid (putS_there HLW.out (show l[k]? = some s by rw [HLG.out, hes]))
        clear hes
        generalize l[k] = y at *
        go_wp2_with fail
        go_ret
        exact ⟨_, rfl, by rw [HPE.out, HN.out]; exact HR.out, Below.refl _ _⟩
      | false =>
        have HPE := hid (putS_new HLW.out (show ¬ l[k]? = some s by
          rw [HLG.out]
          intro h
          have := Option.some.inj h
          rw [this, str_beq] at hqe
          simp at hqe))
        generalize l[k] = y at *
        have HRF := hid (HR.out.from hk)
        have HRU := hid (HR.out.upto hk)
        simp only [Nat.mul_one] at HRF HRU
        rw [show (keyV l).drop k = keyV (l.drop k) by simp [keyV]] at HRF
        rw [show (keyV l).take k = keyV (l.take k) by simp [keyV]] at HRU
        have hfr := sl_fromS b o n c k hk hc
        simp only [Nat.mul_one] at hfr
        have hup := sl_uptoS b o n c k hk hc
        generalize (if c = k then (⟨b, o, none⟩ : Addr) else ⟨b, o + k, none⟩) = A1 at *
        obtain ⟨hi, hz0, hz1, hz2⟩ := HI.out
        have HB1 := hid ((Below.refl w.heap.size w).alloc (Nat.le_refl _) (.cells #[] 9))
        have HO1 := hid (own_new w 9 1)
        have HF1 := hid (HRF.out.below HB1.out)
        go_wp2_with (at_builtin; refine wpL_own _ rfl _ _ _ rfl 9 i0 _ 1 16 Tryz.underlying38 hi hz0 hz1 hz2 rfl (by decide) w.heap.size w.heap.size 0 0 (n - k) [] (keyV (l.drop k)) _ rfl rfl HO1.out HF1.out (keyV_cell _) (by omega) (by omega) HB1.out.size (n - k) (by omega) (keyV (l.drop k)) rfl ?_)
        intro g2 c2 w2 ho2 hb2
        have HB2 := hid (HB1.out.trans hb2)
        have HRS := hid (Rd.own ho2)
        clear ho2 hb2 hfr HO1 HF1
        have HB3 := hid ((Below.refl w2.heap.size w2).alloc (Nat.le_refl _) (.cells #[] 9))
        have HO3 := hid (own_new w2 9 1)
        have HU3 := hid ((HRU.out.below HB2.out).below HB3.out)
        go_wp2_with (at_builtin; refine wpL_own _ rfl _ _ _ rfl 9 i0 _ 1 16 Tryz.underlying38 hi hz0 hz1 hz2 rfl (by decide) w2.heap.size w2.heap.size 0 0 k [] (keyV (l.take k)) _ rfl rfl HO3.out HU3.out (keyV_cell _) (by omega) (by omega) HB3.out.size k (by omega) (keyV (l.take k)) rfl ?_)
        intro g4 c4 w4 ho4 hb4
        have HB4 := hid (HB3.out.trans hb4)
        have HO4 := hid ho4
        clear ho4 hb4 hup HO3 HU3
        have HB5 := hid ((Below.refl w4.heap.size w4).alloc (Nat.le_refl _) (.cells #[.string s] 9))
        have HO5 := hid (ownsRow_below HO4.out HB5.out)
        have HN5 := hid (Rd.new w4 9 1 [.string s] 1 rfl)
        go_wp2_with (at_builtin; refine wpL_own _ rfl _ _ _ rfl 9 i0 _ 1 16 Tryz.underlying38 hi hz0 hz1 hz2 rfl (by decide) w2.heap.size g4 c4 k 1 (keyV (l.take k)) [.string s] _ rfl rfl HO5.out HN5.out (keyV_cell [s]) (by omega) (by omega) (Nat.le_trans HB4.out.size HB5.out.size) (k + 1) rfl (keyV (l.take k ++ [s])) (by rw [keyV_app]; rfl) ?_)
        intro g6 c6 w6 ho6 hb6
        have HB6 := hid ((HB4.out.trans (HB5.out.mono HB4.out.size)).trans hb6)
        have HO6 := hid ho6
        clear ho6 hb6 HO5 HN5 HO4
        have HR6 := hid (HRS.out.below HB6.out)
        go_wp2_with (at_builtin; refine wpL_own _ rfl _ _ _ rfl 9 i0 _ 1 16 Tryz.underlying38 hi hz0 hz1 hz2 rfl (by decide) w2.heap.size g6 c6 (k + 1) (n - k) (keyV (l.take k ++ [s])) (keyV (l.drop k)) _ rfl rfl HO6.out HR6.out (keyV_cell _) (by omega) (by omega) HB6.out.size (n + 1) (by omega) (keyV (l.take k ++ s :: l.drop k)) (by rw [← keyV_app, List.append_assoc]; rfl) ?_)
        intro g8 c8 w8 ho8 hb8
        have HB8 := hid (HB2.out.trans ((HB6.out.trans hb8).mono HB2.out.size))
        have HR8 := hid (Rd.own ho8)
        clear ho8 hb8
        have HLN := hid (show (l.take k ++ s :: l.drop k).length = n + 1 by
          rw [List.length_append, List.length_cons, List.length_take, List.length_drop, HN.out]
          omega)
        go_wp2_with fail
        go_ret
        exact ⟨_, rfl, by rw [HPE.out, HLN.out]; exact HR8.out, HB8.out⟩

end Go.Proofs.YtnbpcgeojmikoaaGreatDoor
