/- Rows that can be read, append of them; rows of a table among them. -/
import Derived.Test.YtdgppdjjmpjgkaaUSpec
import Derived.Maps.AppendAt
import Derived.Deep.Upon
namespace Go.Proofs.Ytdgppdjjmpjgkaa
open Go.RowKit
set_option linter.unusedVariables false
set_option linter.unusedSimpArgs false

theorem u_add_plainW (b o j : Nat) : (⟨b, o, none⟩ : Addr).add j = ⟨b, o + j, none⟩ := by unfold Addr.add; split <;> simp_all

theorem u_cell_grownR {w w' : World} {row : Option Nat} (h : w.grownBy w' row) {b o : Nat} {v : Value} (hc : w.cell? ⟨b, o, none⟩ = some v) (hb : b < w.heap.size) (hr : row ≠ some b) : w'.cell? ⟨b, o, none⟩ = some v :=
  (World.cell?_of_block (a := ⟨b, o, none⟩) (h.block b hb (fun e => hr e.symm))).trans hc

/-- Cells from there on. -/
def u_CellsAt (w : World) (b o : Nat) (cs : List Value) : Prop := ∀ j u, cs[j]? = some u → w.cell? ⟨b, o + j, none⟩ = some u

/-- A row that can be read: its cells, s for each of n. -/
structure u_Rd (w : World) (s : Nat) (v : Value) (n : Nat) (cs : List Value) : Prop where
  at_ : ∃ b o c, v = .slice (some ⟨b, o, none⟩) n c ∧ b < w.heap.size ∧ n ≤ c ∧ u_CellsAt w b o cs
  len : cs.length = n * s

theorem u_Rd.below {w w' : World} {s n : Nat} {v : Value} {cs : List Value} (h : u_Rd w s v n cs) (hb : Below w.heap.size w w') : u_Rd w' s v n cs := by
  obtain ⟨b, o, c, e1, e2, e3, e4⟩ := h.at_
  exact ⟨⟨b, o, c, e1, Nat.lt_of_lt_of_le e2 hb.size, e3, fun j u hj => (hb.cell (p := ⟨b, o + j, none⟩) e2).trans (e4 j u hj)⟩, h.len⟩

/-- One's own can be read, where it has an address. -/
theorem u_Rd.own {w : World} {B : Nat} {e : TypeId} {s n g c : Nat} {cs : List Value} (h : w.ownsRow B e s (.slice (some ⟨g, 0, none⟩) n c) n cs) : u_Rd w s (.slice (some ⟨g, 0, none⟩) n c) n cs := by
  rcases h.2 with ⟨e1, _⟩ | ⟨g', cap, cur, e1, _, h3, h4, _⟩
  · cases e1
  · cases e1
    refine ⟨⟨g, 0, c, rfl, lt_of_heap h3, h4, fun j u hj => ?_⟩, h.1⟩
    have hl : j < n * s := by rw [← h.1]; exact (List.getElem?_eq_some_iff.1 hj).1
    rw [Nat.zero_add, World.ownsRow.cellAt h j hl]
    exact hj

/-- append of what can be read to a row of one's own. -/
theorem u_run_own {P : Program} (W : World) (t ty e : TypeId) (i : TypeInfo) (z : Value) (size bytes : Nat) (h1 : P.underlying t = some (.slice e)) (h2 : P.info? e = some i) (h3 : i.zero = some z) (h4 : i.size = size) (h5 : i.bytes = bytes) (h6 : z.cells.size = size) (h7 : 0 < size)
    (B g c n m : Nat) (xs news : List Value) (x : Value) (hown : W.ownsRow B e size (.slice (some ⟨g, 0, none⟩) n c) n xs) (hx : u_Rd W size x m news) (h1c : ∀ u ∈ news, u.oneCell' = true) (b1 : n + m ≤ 1048576) (b2 : bytes ≤ 1000) (b3 : B ≤ W.heap.size) :
    ∃ g' c' w', (Builtin.append_ #[t, t] ty #[.slice (some ⟨g, 0, none⟩) n c, x]).run P W = .ok (.slice (some ⟨g', 0, none⟩) (n + m) c') w' ∧ w'.ownsRow B e size (.slice (some ⟨g', 0, none⟩) (n + m) c') (n + m) (xs ++ news) ∧ Below B W w' ∧ W.grownBy w' (some g) := by
  obtain ⟨b, o, cx, rfl, hb, hmc, hcs⟩ := hx.at_
  obtain ⟨v', w', hrun, r1, r2, _, r3⟩ := run_append_own_at (P := P) W B t ty e i z size bytes h1 h2 h3 h4 h5 h6 h7 _ n xs hown ⟨b, o, none⟩ m cx news hx.len (fun j u hj => by rw [u_add_plainW]; exact hcs j u hj) h1c (by unfold maxLen; omega) (by
    have : (n + m) * bytes ≤ 1048576 * 1000 := Nat.mul_le_mul b1 b2
    omega) b3
  rcases r1.2 with ⟨e1, _⟩ | ⟨g', cap', cur, e1, _⟩
  · subst e1
    rcases r3 with r3 | r3 <;> cases r3
  · subst e1
    exact ⟨g', cap', w', hrun, r1, (Below.refl B W).grown r2 b3 (fun k e => (hown.lt k e).1), r2⟩

/-- .. as a step of the walk. -/
theorem u_wpL_own {P : Program} (W : World) {ops : Array Oper} {rest : List Oper} {o : Oper} {a : Act} {Q : Exit → Act → World → Prop} (hgd : o.guard = none) (s x : Operand) (t : TypeId)
    (ho : o.op = .call { callee := .builtin .append, args := #[s, x], argTypes := #[t, t] }) (e : TypeId) (i : TypeInfo) (z : Value) (size bytes : Nat) (h1 : P.underlying t = some (.slice e)) (h2 : P.info? e = some i) (h3 : i.zero = some z) (h4 : i.size = size) (h5 : i.bytes = bytes) (h6 : z.cells.size = size) (h7 : 0 < size)
    (B g c n m : Nat) (xs news : List Value) (vx : Value) (hs : a.eval s = .slice (some ⟨g, 0, none⟩) n c) (hxe : a.eval x = vx) (hown : W.ownsRow B e size (.slice (some ⟨g, 0, none⟩) n c) n xs) (hx : u_Rd W size vx m news) (h1c : ∀ u ∈ news, u.oneCell' = true) (b1 : n + m ≤ 1048576) (b2 : bytes ≤ 1000) (b3 : B ≤ W.heap.size) (N : Nat) (hN : n + m = N) (ys : List Value) (hys : xs ++ news = ys)
    (h : ∀ g' c' w', w'.ownsRow B e size (.slice (some ⟨g', 0, none⟩) N c') N ys → Below B W w' → wpList P ops Q rest (a.put o.dst (.slice (some ⟨g', 0, none⟩) N c')) w') : wpList P ops Q (o :: rest) a W := by
  subst hN
  subst hys
  obtain ⟨g', c', w', hrun, r1, r2, _⟩ := u_run_own (P := P) W t o.type e i z size bytes h1 h2 h3 h4 h5 h6 h7 B g c n m xs news vx hown hx h1c b1 b2 b3
  refine wpList_plain hgd fun K hK => ?_
  unfold Oper.wp
  simp [execOp, ho, resolve, invoke, builtin, hs, hxe, hrun, Result.andThen]
  exact hK _ _ (h g' c' w' r1 r2)

/-- .. as a step of a region that draws its order. -/
theorem u_step_own {P : Program} {W : World} {ops : Array Oper} {o : Oper} {a : Act} {K : Act → World → Prop} {Q : Exit → Act → World → Prop} {E : Prop} (hgd : o.guard = none) (s x : Operand) (t : TypeId)
    (ho : o.op = .call { callee := .builtin .append, args := #[s, x], argTypes := #[t, t] }) (e : TypeId) (i : TypeInfo) (z : Value) (size bytes : Nat) (h1 : P.underlying t = some (.slice e)) (h2 : P.info? e = some i) (h3 : i.zero = some z) (h4 : i.size = size) (h5 : i.bytes = bytes) (h6 : z.cells.size = size) (h7 : 0 < size)
    (B g c n m : Nat) (xs news : List Value) (vx : Value) (hs : a.eval s = .slice (some ⟨g, 0, none⟩) n c) (hxe : a.eval x = vx) (hown : W.ownsRow B e size (.slice (some ⟨g, 0, none⟩) n c) n xs) (hx : u_Rd W size vx m news) (h1c : ∀ u ∈ news, u.oneCell' = true) (b1 : n + m ≤ 1048576) (b2 : bytes ≤ 1000) (b3 : B ≤ W.heap.size) (N : Nat) (hN : n + m = N) (ys : List Value) (hys : xs ++ news = ys)
    (h : ∀ g' c' w', w'.ownsRow B e size (.slice (some ⟨g', 0, none⟩) N c') N ys → Below B W w' → W.grownBy w' (some g) → K (a.put o.dst (.slice (some ⟨g', 0, none⟩) N c')) w') :
    if Region.wanted o (yielded ops a.tmps) = true then Oper.wp P o a W K Q else E := by
  subst hN
  subst hys
  have hw : Region.wanted o (yielded ops a.tmps) = true := by simp [Region.wanted, hgd]
  rw [if_pos hw]
  obtain ⟨g', c', w', hrun, r1, r2, r3⟩ := u_run_own (P := P) W t o.type e i z size bytes h1 h2 h3 h4 h5 h6 h7 B g c n m xs news vx hown hx h1c b1 b2 b3
  unfold Oper.wp
  simp [execOp, ho, resolve, invoke, builtin, hs, hxe, hrun, Result.andThen]
  exact h g' c' w' r1 r2 r3

/-- A new row of none. -/
theorem u_own_new (W : World) (e : TypeId) (s : Nat) : (W.alloc (.cells #[] e)).ownsRow W.heap.size e s (.slice (some ⟨W.heap.size, 0, none⟩) 0 0) 0 [] :=
  ⟨by simp, .inr ⟨W.heap.size, 0, #[], rfl, Nat.le_refl _, heap_alloc_new _ _, Nat.le_refl _, Nat.zero_le _, by simp, by simp⟩⟩

theorem u_own_base {w : World} {B B' n : Nat} {v : Value} {xs : List Value} {e : TypeId} {s : Nat} (h : w.ownsRow B' e s v n xs) (hB : B ≤ B') : w.ownsRow B e s v n xs := by
  refine ⟨h.1, ?_⟩
  rcases h.2 with h' | ⟨g, cap, cur, h1, h2, h3⟩
  · exact .inl h'
  · exact .inr ⟨g, cap, cur, h1, Nat.le_trans hB h2, h3⟩

/-- From k on. -/
theorem u_Rd.from {w : World} {s n c b o : Nat} {cs : List Value} (h : u_Rd w s (.slice (some ⟨b, o, none⟩) n c) n cs) {k : Nat} (hk : k ≤ n) : u_Rd w s (.slice (some (if c = k then ⟨b, o, none⟩ else ⟨b, o + k * s, none⟩)) (n - k) (c - k)) (n - k) (cs.drop (k * s)) := by
  obtain ⟨b', o', c', e, h1, h2, h3⟩ := h.at_
  cases e
  have hl : (cs.drop (k * s)).length = (n - k) * s := by rw [List.length_drop, h.len, Nat.sub_mul]
  split
  · have e0 : cs.drop (k * s) = [] := List.eq_nil_of_length_eq_zero (by rw [hl, show n - k = 0 by omega, Nat.zero_mul])
    exact ⟨⟨b, o, _, rfl, h1, by omega, fun j u hj => by rw [e0] at hj; cases hj⟩, hl⟩
  · exact ⟨⟨b, o + k * s, _, rfl, h1, by omega, fun j u hj => by
      rw [List.getElem?_drop] at hj
      rw [Nat.add_assoc]
      exact h3 _ _ hj⟩, hl⟩

/-- The first k. -/
theorem u_Rd.upto {w : World} {s n c b o : Nat} {cs : List Value} (h : u_Rd w s (.slice (some ⟨b, o, none⟩) n c) n cs) {k : Nat} (hk : k ≤ n) : u_Rd w s (.slice (some ⟨b, o, none⟩) k c) k (cs.take (k * s)) := by
  obtain ⟨b', o', c', e, h1, h2, h3⟩ := h.at_
  cases e
  refine ⟨⟨b, o, _, rfl, h1, by omega, fun j u hj => ?_⟩, by rw [List.length_take, h.len]; exact Nat.min_eq_left (Nat.mul_le_mul_right _ hk)⟩
  rw [List.getElem?_take] at hj
  split at hj
  · exact h3 _ _ hj
  · cases hj

/-- A block made at once. -/
theorem u_Rd.new (W : World) (e : TypeId) (s : Nat) (cs : List Value) (n : Nat) (h : cs.length = n * s) : u_Rd (W.alloc (.cells cs.toArray e)) s (.slice (some ⟨W.heap.size, 0, none⟩) n n) n cs :=
  ⟨⟨W.heap.size, 0, n, rfl, by simp, Nat.le_refl _, fun j u hj => by rw [Lib.cell_of_heap (heap_alloc_new W _), Nat.zero_add]; simpa using hj⟩, h⟩

/-- What lies elsewhere stays where a row grows. -/
theorem u_Rd.grown {w w' : World} {s n b o c : Nat} {cs : List Value} {g : Nat} (h : u_Rd w s (.slice (some ⟨b, o, none⟩) n c) n cs) (hg : w.grownBy w' (some g)) (hne : ¬ g = b) : u_Rd w' s (.slice (some ⟨b, o, none⟩) n c) n cs := by
  obtain ⟨b', o', c', e, h1, h2, h3⟩ := h.at_
  cases e
  exact ⟨⟨b, o, c, rfl, Nat.lt_of_lt_of_le h1 hg.size, h2, fun j u hj => u_cell_grownR hg (h3 j u hj) h1 (fun e => hne (by cases e; rfl))⟩, h.len⟩

/-- A row whose cells can be read, of none too, wherever it lies. -/
structure u_Sr (w : World) (s : Nat) (v : Value) (n : Nat) (cs : List Value) : Prop where
  at_ : ∃ a c, v = .slice a n c ∧ (0 < n → ∃ b o, a = some ⟨b, o, none⟩ ∧ b < w.heap.size ∧ u_CellsAt w b o cs)
  len : cs.length = n * s

theorem u_Sr.below {w w' : World} {s n : Nat} {v : Value} {cs : List Value} (h : u_Sr w s v n cs) (hb : Below w.heap.size w w') : u_Sr w' s v n cs := by
  obtain ⟨a, c, e1, e2⟩ := h.at_
  refine ⟨⟨a, c, e1, fun hn => ?_⟩, h.len⟩
  obtain ⟨b, o, f1, f2, f3⟩ := e2 hn
  exact ⟨b, o, f1, Nat.lt_of_lt_of_le f2 hb.size, fun j u hj => (hb.cell (p := ⟨b, o + j, none⟩) f2).trans (f3 j u hj)⟩

/-- append of such a row, as a step of a region that draws its order. -/
theorem u_step_src {P : Program} {W : World} {ops : Array Oper} {o : Oper} {a : Act} {K : Act → World → Prop} {Q : Exit → Act → World → Prop} {E : Prop} (hgd : o.guard = none) (s x : Operand) (t : TypeId)
    (ho : o.op = .call { callee := .builtin .append, args := #[s, x], argTypes := #[t, t] }) (e : TypeId) (i : TypeInfo) (z : Value) (size bytes : Nat) (h1 : P.underlying t = some (.slice e)) (h2 : P.info? e = some i) (h3 : i.zero = some z) (h4 : i.size = size) (h5 : i.bytes = bytes) (h6 : z.cells.size = size) (h7 : 0 < size)
    (B g c n m : Nat) (xs news : List Value) (vx : Value) (hs : a.eval s = .slice (some ⟨g, 0, none⟩) n c) (hxe : a.eval x = vx) (hown : W.ownsRow B e size (.slice (some ⟨g, 0, none⟩) n c) n xs) (hx : u_Sr W size vx m news) (h1c : ∀ u ∈ news, u.oneCell' = true) (b1 : n + m ≤ 1048576) (b2 : bytes ≤ 1000) (b3 : B ≤ W.heap.size) (N : Nat) (hN : n + m = N) (ys : List Value) (hys : xs ++ news = ys)
    (h : ∀ g' c' w', w'.ownsRow B e size (.slice (some ⟨g', 0, none⟩) N c') N ys → Below B W w' → W.grownBy w' (some g) → K (a.put o.dst (.slice (some ⟨g', 0, none⟩) N c')) w') :
    if Region.wanted o (yielded ops a.tmps) = true then Oper.wp P o a W K Q else E := by
  obtain ⟨ax, cx, rfl, hpos⟩ := hx.at_
  rcases Nat.eq_zero_or_pos m with h0 | h0
  · subst h0
    have hw : Region.wanted o (yielded ops a.tmps) = true := by simp [Region.wanted, hgd]
    rw [if_pos hw]
    have hnews : news = [] := List.eq_nil_of_length_eq_zero (by rw [hx.len, Nat.zero_mul])
    subst hnews
    rw [List.append_nil] at hys
    subst hys
    subst hN
    have hsrc : Src P i.size t (.slice ax 0 cx) 0 [] W := by
      cases ax with
      | none => exact Src.ofNil W h1 cx
      | some ad => exact Src.ofSlice W h1 ad 0 cx [] (by simp) (fun j u h => by simp at h) (fun u h => by cases h)
    have hle : n ≤ c := by
      rcases hown.2 with ⟨e1, _⟩ | ⟨g', cap, cur, e1, _, _, hc, _⟩
      · cases e1
      · cases e1
        exact hc
    have hr := run_append_nothing (P := P) W t t o.type e i h1 h2 (some ⟨g, 0, none⟩) n c hle _ hsrc
    unfold Oper.wp
    simp [execOp, ho, resolve, invoke, builtin, hs, hxe, hr, Result.andThen]
    exact h g c W (by rw [Nat.add_zero]; exact hown) (Below.refl _ _) ⟨rfl, rfl, rfl, Nat.le_refl _, fun i _ _ => rfl⟩
  · obtain ⟨b, o', rfl, hb, hcs⟩ := hpos h0
    have hw : Region.wanted o (yielded ops a.tmps) = true := by simp [Region.wanted, hgd]
    rw [if_pos hw]
    subst hN
    subst hys
    obtain ⟨v', w', hrun, r1, r2, _, r3⟩ := run_append_own_at (P := P) W B t o.type e i z size bytes h1 h2 h3 h4 h5 h6 h7 _ n xs hown ⟨b, o', none⟩ m cx news hx.len (fun j u hj => by rw [u_add_plainW]; exact hcs j u hj) h1c (by unfold maxLen; omega) (by
      have : (n + m) * bytes ≤ 1048576 * 1000 := Nat.mul_le_mul b1 b2
      omega) b3
    rcases r1.2 with ⟨e1, _⟩ | ⟨g', cap', cur, e1, _⟩
    · subst e1
      rcases r3 with r3 | r3 <;> cases r3
    · subst e1
      unfold Oper.wp
      simp [execOp, ho, resolve, invoke, builtin, hs, hxe, hrun, Result.andThen]
      exact h g' cap' w' r1 ((Below.refl B W).grown r2 b3 (fun k e => (hown.lt k e).1)) r2

/-- What is set in a block that the row does not lie in. -/
theorem u_own_set {w : World} {B : Nat} {E : TypeId} {s n : Nat} {v : Value} {xs : List Value} (h : w.ownsRow B E s v n xs) {g : Nat} (hg : v.ownBlock ≠ some g) (o : Nat) (u : Value) : (w.setCell ⟨g, o, none⟩ u).ownsRow B E s v n xs :=
  h.kept (Lib.grownBy_setCell w g o u) (.inr hg)

theorem roC_drop (l : List Ro) : ∀ k, (roC l).drop (k * 2) = roC (l.drop k) := by
  induction l with
  | nil => intro k; simp [roC]
  | cons x l ih =>
    intro k
    cases k with
    | zero => rfl
    | succ k =>
      have e : roC (x :: l) = .string x.id :: .int .i64 x.til :: roC l := rfl
      rw [e, show (k + 1) * 2 = k * 2 + 1 + 1 by omega, List.drop_succ_cons, List.drop_succ_cons, List.drop_succ_cons]
      exact ih k

theorem roC_take (l : List Ro) : ∀ k, (roC l).take (k * 2) = roC (l.take k) := by
  induction l with
  | nil => intro k; simp [roC]
  | cons x l ih =>
    intro k
    cases k with
    | zero => rfl
    | succ k =>
      have e : roC (x :: l) = .string x.id :: .int .i64 x.til :: roC l := rfl
      rw [e, show (k + 1) * 2 = k * 2 + 1 + 1 by omega, List.take_succ_cons, List.take_succ_cons, List.take_succ_cons, ih k]
      rfl

theorem RoRow.sr {w : World} {a : Option Addr} {l : List Ro} {n c : Nat} (h : RoRow w a l) (hn : l.length = n) : u_Sr w 2 (.slice a n c) n (roC l) := by
  refine ⟨⟨a, c, rfl, fun h0 => ?_⟩, by rw [roC_len, hn]⟩
  obtain ⟨b, o, e, hb, _, _⟩ := h 0 (by omega)
  refine ⟨b, o, e, hb, fun j u hj => ?_⟩
  have hl : j < (roC l).length := (List.getElem?_eq_some_iff.1 hj).1
  rw [roC_len] at hl
  obtain ⟨b2, o2, e2, _, c1, c2⟩ := h (j / 2) (by omega)
  rw [e] at e2
  obtain ⟨rfl, rfl⟩ : b = b2 ∧ o = o2 := by cases e2; exact ⟨rfl, rfl⟩
  obtain ⟨k1, k2⟩ := roC_get l (j / 2) (by omega)
  rcases Nat.mod_two_eq_zero_or_one j with hm | hm
  · have ej : j / 2 * 2 = j := by omega
    rw [ej] at k1 c1
    rw [k1] at hj
    cases hj
    exact c1
  · have ej : j / 2 * 2 + 1 = j := by omega
    rw [ej] at k2
    rw [k2] at hj
    cases hj
    rw [Nat.add_assoc, ej] at c2
    exact c2

theorem u_Rd.ro {w : World} {n c : Nat} {a : Option Addr} {l : List Ro} (h : u_Rd w 2 (.slice a n c) n (roC l)) : RoRow w a l := by
  intro i hi
  obtain ⟨b, o, c', e, h1, h2, h3⟩ := h.at_
  cases e
  obtain ⟨k1, k2⟩ := roC_get l i hi
  exact ⟨b, o, rfl, h1, h3 _ _ k1, h3 (i * 2 + 1) _ k2⟩

theorem sl_fromR (b o L cap k : Nat) (h : k ≤ L) (hL : L ≤ cap) (W : World) : (Instr.slice 31 (.slice (some ⟨b, o, none⟩) L cap) (some (.int .i64 k)) none none).run Try.prog W = .ok (.slice (some (if cap = k then ⟨b, o, none⟩ else ⟨b, o + k * 2, none⟩)) (L - k) (cap - k)) W := by
  have h' : (k : Int) ≤ L := by omega
  have h2 : (L : Int) ≤ cap := by omega
  go_simp
  by_cases e : cap = k <;> simp [e, Addr.add]

theorem sl_uptoR (b o L cap k : Nat) (h : k ≤ L) (hL : L ≤ cap) (W : World) : (Instr.slice 31 (.slice (some ⟨b, o, none⟩) L cap) none (some (.int .i64 k)) none).run Try.prog W = .ok (.slice (some ⟨b, o, none⟩) k cap) W := by
  have h' : (k : Int) ≤ L := by omega
  have h2 : (k : Int) ≤ cap := by omega
  have h3 : ¬ cap < k := by omega
  go_simp

theorem infoRoW : (Try.prog.info? 74).map (fun i => (i.zero, i.size, i.bytes)) = some (some (.agg #[.string ⟨#[]⟩, .int .i64 0]), 2, 24) := by kernel_rfl

/-- Rows in memory of one's own, with an address. -/
def RoOwn (w : World) (B g c : Nat) (l : List Ro) : Prop := w.ownsRow B 74 2 (.slice (some ⟨g, 0, none⟩) l.length c) l.length (roC l)

theorem RoOwn.below {w w' : World} {B g c : Nat} {l : List Ro} (h : RoOwn w B g c l) (hb : Below w.heap.size w w') : RoOwn w' B g c l := ownsRow_below h hb

theorem RoOwn.rd {w : World} {B g c : Nat} {l : List Ro} (h : RoOwn w B g c l) : u_Rd w 2 (.slice (some ⟨g, 0, none⟩) l.length c) l.length (roC l) := u_Rd.own h

theorem RoOwn.row {w : World} {B g c : Nat} {l : List Ro} (h : RoOwn w B g c l) : RoRow w (some ⟨g, 0, none⟩) l := h.rd.ro

theorem RoOwn.own {w : World} {B g c : Nat} {l : List Ro} (h : RoOwn w B g c l) : OwnRo w B (some ⟨g, 0, none⟩) l := by
  obtain ⟨a, c', e, ho⟩ := own_ro h rfl
  cases e
  exact ho

end Go.Proofs.Ytdgppdjjmpjgkaa
