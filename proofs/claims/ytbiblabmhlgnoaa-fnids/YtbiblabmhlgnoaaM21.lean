/- Contracts of the draws of a tree that may be bent (l8DrawAny), of a place in it (l8DrawAt), of both (DrawEndOf, DrawKidsOf). Contracts of the draws DrawTreeOk, DrawNamesOk, DrawMeaning. Contracts of the draws DrawEndOf, DrawPruned, DrawBranch, with the room of what is drawn. -/
import Derived.Test.YtbiblabmhlgnoaaM20
import Derived.Laws.OwnMore
namespace Go.Proofs.Ytbiblabmhlgnoaa
open Go.RowKit
set_option linter.unusedVariables false
set_option linter.unusedSimpArgs false

set_option maxHeartbeats 2000000 in
theorem cFromA (lo : Int) (n : Nat) (hi : Int) (hlo : -100 ≤ lo) (hlo2 : lo ≤ 100) (hn : hi - lo + 1 = (n : Int)) (hn0 : 1 ≤ n) (hn1 : n ≤ 256) (w0 : World) (a : Option Addr) (len cap b : Nat) (w : World) (hlen : len ≤ 4096) (hcr : CodeRow w0 a len) (hC : Cur w0 a len cap b w) :
    Calls Try.prog 58 #[.pointer (some ⟨b, 0, none⟩), .int .i64 lo, .int .i64 hi] w fun e w' => ∃ x : Int, e = .returned (.int .i64 x) ∧ lo ≤ x ∧ x ≤ hi ∧ Cur w0 a len cap b w' ∧ w.grownBy w' (some b) := by
  have HR : Hid (CodeRow w0 a len) := hcr
  have HC : Hid (Cur w0 a len cap b w) := hC
  have HNN := hid hn
  have hi1 : hi ≤ 1000 := by omega
  have hi2 : -1000 ≤ hi := by omega
  have C := hid (cBelow n w0 a len cap b w hlen HR.out HC.out hn0 hn1)
  rw [← hn] at C
  clear hcr hC hn
  go_enter Try.func58, Try.ntmps58
  go_wp2_with fail
  refine C.out.mono ?_
  rintro e w1 ⟨x, rfl, hx, hC1, hG1⟩
  have hx2 : (x : Int) < 300 := by omega
  have HX := hid hx
  have HC1 := hid hC1
  have HG1 := hid hG1
  clear hC1 hG1 C hx
  go_wp2_with fail
  go_ret
  exact ⟨_, rfl, by omega, by have := HNN.out; have := HX.out; omega, HC1.out, HG1.out⟩

/-- A drawn tree, well laid. -/
def DrawnT (w0 : World) (a : Option Addr) (len cap b : Nat) (w : World) (e : Ending) (w' : World) : Prop :=
  ∃ a' c' ts, e = .returned (.slice a' (ts : List Tk).length c') ∧ TkRow w' a' ts ∧ ts.length ≤ 11 ∧ TksSz 40 ts ∧ Cur w0 a len cap b w' ∧ w.grownBy w' (some b) ∧ ts.length ≤ c' ∧ c' ≤ maxLen

theorem own_cap {w : World} {B size g n c : Nat} {e : TypeId} {xs : List Value} (h : w.ownsRow B e size (.slice (some ⟨g, 0, none⟩) n c) n xs) : n ≤ c ∧ c ≤ maxLen := by
  rcases h.2 with ⟨h', _⟩ | ⟨g', cap', cur, h', _, _, hn, hc, _⟩
  · cases h'
  · cases h'
    exact ⟨hn, hc⟩

theorem cs_set {es : List Nd.E} : ∀ {x : Nat} (hx : x < es.length) {f : Nat} (hf : f < 4) {u : Value} {e' : Nd.E}, Nd.c1 e' = (Nd.c1 es[x]).set f u → (Nd.cs es).set (x * 4 + f) u = Nd.cs (es.set x e') := by
  induction es with
  | nil => intro x hx; simp at hx
  | cons y es ih =>
    intro x hx f hf u e' he
    have e1 : Nd.cs (y :: es) = Nd.c1 y ++ Nd.cs es := rfl
    have hl : (Nd.c1 y).length = 4 := rfl
    match x with
    | 0 =>
      simp only [List.getElem_cons_zero] at he
      have e2 : Nd.cs ((y :: es).set 0 e') = Nd.c1 e' ++ Nd.cs es := rfl
      rw [e1, e2, he, Nat.zero_mul, Nat.zero_add, List.set_append, if_pos (by rw [hl]; exact hf)]
    | x + 1 =>
      have e2 : Nd.cs ((y :: es).set (x + 1) e') = Nd.c1 y ++ Nd.cs (es.set x e') := rfl
      rw [e1, e2, List.set_append, if_neg (by rw [hl]; omega), hl, show (x + 1) * 4 + f - 4 = x * 4 + f by omega, ih (by simpa using hx) hf (by simpa using he)]

/-- A row of nodes that is owned, its lists read. -/
theorem own_tkRow {w : World} {B g n cap : Nat} {es : List Nd.E} (h : w.ownsRow B 56 4 (.slice (some ⟨g, 0, none⟩) n cap) n (Nd.cs es)) (hn : es.length = n) (ha : ∀ e ∈ es, AtRow w e.a e.t.attrs) : TkRow w (some ⟨g, 0, none⟩) (es.map (·.t)) := by
  intro j hj
  rw [List.length_map] at hj
  obtain ⟨k0, k1, k2, k3⟩ := Nd.cs_get es j hj
  have hg : g < w.heap.size := (h.lt g rfl).2
  have hx : ∀ k u, k < n * 4 → (Nd.cs es)[k]? = some u → w.cell? ⟨g, 0 + k, none⟩ = some u := fun k u hk hu => by rw [Nat.zero_add, h.cellAt k hk]; exact hu
  rw [List.getElem_map]
  exact ⟨g, 0, es[j].a, es[j].cap, rfl, hg, hx _ _ (by omega) k0, hx _ _ (by omega) k1, hx _ _ (by omega) k2, hx _ _ (by omega) k3, ha _ (List.getElem_mem hj)⟩

/-- The cells of one node. -/
theorem slot_at {w : World} {B g n cap x : Nat} {es : List Nd.E} (h : Nd.Row w B (.slice (some ⟨g, 0, none⟩) n cap) es) (hn : es.length = n) (hx : x < es.length) :
    w.cell? ⟨g, x * 4, none⟩ = some (.int .i64 es[x].t.kind) ∧ w.cell? ⟨g, x * 4 + 1, none⟩ = some (.string es[x].t.name) ∧ w.cell? ⟨g, x * 4 + 2, none⟩ = some (.slice es[x].a es[x].t.attrs.length es[x].cap) ∧ w.cell? ⟨g, x * 4 + 3, none⟩ = some (.string es[x].t.text) := by
  obtain ⟨k0, k1, k2, k3⟩ := Nd.cs_get es x hx
  have ho := h.own
  rw [hn] at ho
  exact ⟨by rw [ho.cellAt _ (by omega)]; exact k0, by rw [ho.cellAt _ (by omega)]; exact k1, by rw [ho.cellAt _ (by omega)]; exact k2, by rw [ho.cellAt _ (by omega)]; exact k3⟩

section
variable {w0 : World} {a : Option Addr} {len cap b : Nat} {w wr : World} {es : List Nd.E} {at_ g L cv x : Nat}

/-- One field of one node is set, not its list. -/
theorem any_set (h : NSt w0 a len cap b w wr (.slice (some ⟨g, 0, none⟩) L cv) es at_) (hL : es.length = L) (hx : x < es.length) (h11 : L ≤ 11) {f : Nat} (hf : f < 4) {u : Value} {t' : Tk} (ht : t'.attrs = es[x].t.attrs) (hc : Nd.c1 ⟨t', es[x].a, es[x].cap⟩ = (Nd.c1 es[x]).set f u) (hz : TkSz 40 t') (r : Ending) (hr : r = .returned (.slice (some ⟨g, 0, none⟩) L cv)) :
    DrawnT w0 a len cap b w r (wr.setCell ⟨g, x * 4 + f, none⟩ u) := by
  have ho := h.row.own
  rw [hL] at ho
  obtain ⟨ho', hg'⟩ := ho.stored (x * 4 + f) u
  have hge := (ho.lt g rfl).1
  rw [cs_set hx hf hc] at ho'
  have hlen : (es.set x ⟨t', es[x].a, es[x].cap⟩).length = L := by rw [List.length_set]; exact hL
  refine ⟨some ⟨g, 0, none⟩, cv, (es.set x ⟨t', es[x].a, es[x].cap⟩).map (·.t), by rw [hr, List.length_map, hlen], own_tkRow ho' hlen (fun e he => ?_), by rw [List.length_map, hlen]; exact h11, fun t htt => ?_, h.c.cur.grown hg' (fun e => by have := Option.some.inj e; have := h.c.lt; omega) (fun k e => by have := Option.some.inj e; have := h.c.le; omega), g_later h.c.gr hg' hge, by rw [List.length_map, hlen]; exact (own_cap ho).1, (own_cap ho).2⟩
  · have key : ∀ e0 ∈ es, AtRow (wr.setCell ⟨g, x * 4 + f, none⟩ u) e0.a e0.t.attrs := fun e0 he0 j hj => by
      obtain ⟨g1, o1, e1, hl1, q1, q2⟩ := (h.row.ats e0 he0).1.atRow j hj
      have hne : ¬ g = g1 := fun e2 => (h.row.ats e0 he0).2 g1 o1 (by omega) e1 (by rw [e2]; rfl)
      exact ⟨g1, o1, e1, by simpa using hl1, (World.cell?_setCell_far _ _ _ _ hne).trans q1, (World.cell?_setCell_far _ _ _ _ hne).trans q2⟩
    rcases List.mem_or_eq_of_mem_set he with h' | h'
    · exact key e h'
    · subst h'
      show AtRow _ es[x].a t'.attrs
      rw [ht]
      exact key _ (List.getElem_mem hx)
  · obtain ⟨e, he, rfl⟩ := List.mem_map.1 htt
    rcases List.mem_or_eq_of_mem_set he with h' | h'
    · obtain ⟨q1, q2, q3, q4⟩ := h.sz e h'
      exact ⟨by omega, by omega, fun y hy => by have := q3 y hy; omega, by omega⟩
    · subst h'
      exact hz

/-- As it was drawn. -/
theorem any_same (h : NSt w0 a len cap b w wr (.slice (some ⟨g, 0, none⟩) L cv) es at_) (hL : es.length = L) (h11 : L ≤ 11) (r : Ending) (hr : r = .returned (.slice (some ⟨g, 0, none⟩) L cv)) : DrawnT w0 a len cap b w r wr := by
  have ho := h.row.own
  rw [hL] at ho
  obtain ⟨a', c', e1, ht⟩ := h.row.tkRow
  rw [hL] at e1
  cases e1
  refine ⟨_, _, es.map (·.t), by rw [hr, List.length_map, hL], ht, by rw [List.length_map, hL]; exact h11, fun t htt => ?_, h.c.cur, h.c.gr, by rw [List.length_map, hL]; exact (own_cap ho).1, (own_cap ho).2⟩
  obtain ⟨e, he, rfl⟩ := List.mem_map.1 htt
  obtain ⟨q1, q2, q3, q4⟩ := h.sz e he
  exact ⟨by omega, by omega, fun y hy => by have := q3 y hy; omega, by omega⟩

/-- Without the first. -/
theorem any_less {m : Nat} (h : NSt w0 a len cap b w wr (.slice (some ⟨g, 0, none⟩) (m + 1) cv) es at_) (hL : es.length = m + 1) (h11 : m + 1 ≤ 11) (c2 : Nat) (r : Ending) (hr : r = .returned (.slice (some ⟨g, 4, none⟩) m c2)) (hc2 : c2 = cv - 1) : DrawnT w0 a len cap b w r wr := by
  have ho := h.row.own
  rw [hL] at ho
  have hcap := own_cap ho
  obtain ⟨a', c', e1, ht⟩ := h.row.tkRow
  rw [hL] at e1
  cases e1
  have hl : ((es.map (·.t)).drop 1).length = m := by rw [List.length_drop, List.length_map, hL]; omega
  refine ⟨some ⟨g, 4, none⟩, c2, (es.map (·.t)).drop 1, by rw [hr, hl], fun j hj => ?_, by omega, fun t htt => ?_, h.c.cur, h.c.gr, by omega, by omega⟩
  · have hj2 : 1 + j < (es.map (·.t)).length := by rw [List.length_map, hL]; omega
    obtain ⟨b1, o1, aa, ca, e1, hb1, q0, q1, q2, q3, q4⟩ := ht (1 + j) hj2
    cases e1
    rw [List.getElem_drop]
    exact ⟨g, 4, aa, ca, rfl, hb1, by rw [show 4 + j * 4 = 0 + (1 + j) * 4 by omega]; exact q0, by rw [show 4 + j * 4 + 1 = 0 + (1 + j) * 4 + 1 by omega]; exact q1, by rw [show 4 + j * 4 + 2 = 0 + (1 + j) * 4 + 2 by omega]; exact q2, by rw [show 4 + j * 4 + 3 = 0 + (1 + j) * 4 + 3 by omega]; exact q3, q4⟩
  · obtain ⟨e, he, rfl⟩ := List.mem_map.1 (List.mem_of_mem_drop htt)
    obtain ⟨q1, q2, q3, q4⟩ := h.sz e he
    exact ⟨by omega, by omega, fun y hy => by have := q3 y hy; omega, by omega⟩

end

theorem own_atR {w : World} {B : Nat} {a : Option Addr} {c n : Nat} {l : List At} (h : w.ownsRow B 66 2 (.slice a n c) n (atC l)) (hl : l.length = n) : OwnAts w B a l := by
  rcases h.2 with ⟨_, h0⟩ | ⟨g, cp, cur, e, hg, hh, hn, hc, hs, ht⟩
  · exact fun hl => by omega
  · cases e
    refine fun _ => ⟨g, 0, cur, rfl, hg, hh, fun j hj => ?_⟩
    obtain ⟨g1, g2⟩ := atC_get l j hj
    rw [← ht, List.getElem?_take] at g1 g2
    refine ⟨?_, ?_⟩
    · rw [Nat.zero_add, ← Array.getElem?_toList]
      split at g1
      · exact g1
      · cases g1
    · rw [Nat.zero_add, ← Array.getElem?_toList]
      split at g2
      · exact g2
      · cases g2

theorem own_kind {w : World} {B n s : Nat} {v : Value} {xs : List Value} {E : TypeId} (h : w.ownsRow B E s v n xs) : ∀ k, v.ownBlock = some k → ∃ c fz, w.heap[k]? = some (.cells c E fz) := by
  intro k hk
  rcases h.2 with ⟨rfl, _⟩ | ⟨g, cp, cur, rfl, hg, hh, _⟩
  · cases hk
  · cases hk
    exact ⟨_, _, hh⟩

theorem g_own {w wr w1 : World} {b : Nat} {row : Option Nat} (h : w.grownBy wr (some b)) (k : wr.grownBy w1 row) (hg : ∀ i, row = some i → w.heap.size ≤ i) : w.grownBy w1 (some b) :=
  ⟨k.os.trans h.os, k.tape.trans h.tape, k.output.trans h.output, Nat.le_trans h.size k.size, fun i hi hr => (k.block i (Nat.lt_of_lt_of_le hi h.size) (fun e => by have := hg i e.symm; omega)).trans (h.block i hi hr)⟩

/-- The cells of one node, of a row that is owned. -/
theorem slot_own {w : World} {B g n cap x : Nat} {es : List Nd.E} (ho : w.ownsRow B 56 4 (.slice (some ⟨g, 0, none⟩) n cap) n (Nd.cs es)) (hn : es.length = n) (hx : x < es.length) :
    (w.cell? ⟨g, x * 4, none⟩ = some (.int .i64 es[x].t.kind) ∧ w.cell? ⟨g, x * 4 + 1, none⟩ = some (.string es[x].t.name) ∧ w.cell? ⟨g, x * 4 + 2, none⟩ = some (.slice es[x].a es[x].t.attrs.length es[x].cap) ∧ w.cell? ⟨g, x * 4 + 3, none⟩ = some (.string es[x].t.text)) ∧ ∀ j, w.frozen? ⟨g, j, none⟩ = false := by
  obtain ⟨k0, k1, k2, k3⟩ := Nd.cs_get es x hx
  exact ⟨⟨by rw [ho.cellAt _ (by omega)]; exact k0, by rw [ho.cellAt _ (by omega)]; exact k1, by rw [ho.cellAt _ (by omega)]; exact k2, by rw [ho.cellAt _ (by omega)]; exact k3⟩, fun j => ho.frozenAt j⟩

theorem any_nil {w0 : World} {a : Option Addr} {len cap b : Nat} {w wr : World} {v : Value} {es : List Nd.E} {at_ : Nat} (h : NSt w0 a len cap b w wr v es at_) (a2 : Option Addr) (c2 : Nat) (r : Ending) (hr : r = .returned (.slice a2 0 c2)) (hc2 : c2 ≤ maxLen) : DrawnT w0 a len cap b w r wr :=
  ⟨a2, c2, [], hr, fun j hj => absurd hj (Nat.not_lt_zero _), Nat.zero_le _, fun t ht => absurd ht List.not_mem_nil, h.c.cur, h.c.gr, Nat.zero_le _, hc2⟩

theorem two_one (t : ByteArray) : ∀ u ∈ [Value.string t, .string ⟨#[118]⟩], u.oneCell' = true := by
  intro u hu
  simp only [List.mem_cons, List.not_mem_nil, or_false] at hu
  rcases hu with rfl | rfl <;> rfl

section
variable {w0 : World} {a : Option Addr} {len cap b : Nat} {w wr : World} {es : List Nd.E} {at_ g L cv x : Nat}

theorem slot_of (h : NSt w0 a len cap b w wr (.slice (some ⟨g, 0, none⟩) L cv) es at_) (hL : es.length = L) (hx : x < es.length) :
    (wr.cell? ⟨g, x * 4, none⟩ = some (.int .i64 es[x].t.kind) ∧ wr.cell? ⟨g, x * 4 + 1, none⟩ = some (.string es[x].t.name) ∧ wr.cell? ⟨g, x * 4 + 2, none⟩ = some (.slice es[x].a es[x].t.attrs.length es[x].cap) ∧ wr.cell? ⟨g, x * 4 + 3, none⟩ = some (.string es[x].t.text)) ∧ ∀ j, wr.frozen? ⟨g, j, none⟩ = false := by
  have ho := h.row.own
  rw [hL] at ho
  exact slot_own ho hL hx

theorem slot_grown {w7 : World} (h : NSt w0 a len cap b w wr (.slice (some ⟨g, 0, none⟩) L cv) es at_) (hL : es.length = L) (hx : x < es.length) (hg : wr.grownBy w7 (Value.slice es[x].a es[x].t.attrs.length es[x].cap).ownBlock) :
    (w7.cell? ⟨g, x * 4, none⟩ = some (.int .i64 es[x].t.kind) ∧ w7.cell? ⟨g, x * 4 + 1, none⟩ = some (.string es[x].t.name) ∧ w7.cell? ⟨g, x * 4 + 2, none⟩ = some (.slice es[x].a es[x].t.attrs.length es[x].cap) ∧ w7.cell? ⟨g, x * 4 + 3, none⟩ = some (.string es[x].t.text)) ∧ ∀ j, w7.frozen? ⟨g, j, none⟩ = false := by
  have ho := own_grownR h.row.own hg (own_kind (h.own _ (List.getElem_mem hx))) (by decide)
  rw [hL] at ho
  exact slot_own ho hL hx

/-- One more attr at one node. -/
theorem any_app {w7 : World} (h : NSt w0 a len cap b w wr (.slice (some ⟨g, 0, none⟩) L cv) es at_) (hL : es.length = L) (hx : x < es.length) (h11 : L ≤ 11) {tN : ByteArray} (htN : tN.size ≤ 7) {v7 : Value} (ho : w7.ownsRow w.heap.size 66 2 v7 (es[x].t.attrs.length + 1) (atC es[x].t.attrs ++ [.string tN, .string ⟨#[118]⟩])) (hg : wr.grownBy w7 (Value.slice es[x].a es[x].t.attrs.length es[x].cap).ownBlock) :
    ∀ (a7 : Option Addr) (c7 : Nat), v7 = .slice a7 (es[x].t.attrs.length + 1) c7 → ∀ r : Ending, r = .returned (.slice (some ⟨g, 0, none⟩) L cv) → DrawnT w0 a len cap b w r (w7.setCell ⟨g, x * 4 + 2, none⟩ v7) := by
  rintro a7 c7 rfl r hr
  have hown := h.own _ (List.getElem_mem hx)
  have hrow := own_grownR h.row.own hg (own_kind hown) (by decide)
  rw [hL] at hrow
  obtain ⟨ho', hg'⟩ := hrow.stored (x * 4 + 2) (.slice a7 (es[x].t.attrs.length + 1) c7)
  obtain ⟨l', hl'⟩ : ∃ l' : List At, l' = es[x].t.attrs ++ [⟨tN, ⟨#[118]⟩⟩] := ⟨_, rfl⟩
  have hll : l'.length = es[x].t.attrs.length + 1 := by rw [hl', List.length_append]; rfl
  have hat : atC l' = atC es[x].t.attrs ++ [.string tN, .string ⟨#[118]⟩] := by rw [hl', atC_app]; rfl
  have hc : Nd.c1 ⟨⟨es[x].t.kind, es[x].t.name, l', es[x].t.text⟩, a7, c7⟩ = (Nd.c1 es[x]).set 2 (.slice a7 (es[x].t.attrs.length + 1) c7) := by
    rw [← hll]
    rfl
  rw [cs_set hx (by omega) hc] at ho'
  rw [← hat] at ho
  have hge := (hrow.lt g rfl).1
  have hlen : (es.set x ⟨⟨es[x].t.kind, es[x].t.name, l', es[x].t.text⟩, a7, c7⟩).length = L := by rw [List.length_set]; exact hL
  have hcur : Cur w0 a len cap b w7 := h.c.cur.grown hg (fun e => by have := (hown.lt b e.symm).1; have := h.c.lt; omega) (fun k e => by have := (hown.lt k e).1; have := h.c.le; omega)
  have hgr : w.grownBy w7 (some b) := g_own h.c.gr hg (fun i e => (hown.lt i e).1)
  obtain ⟨cn, fzn, hkn⟩ := own_kind hrow g rfl
  have key : ∀ (a1 : Option Addr) (l1 : List At), OwnAts w7 w.heap.size a1 l1 → AtRow (w7.setCell ⟨g, x * 4 + 2, none⟩ (.slice a7 (es[x].t.attrs.length + 1) c7)) a1 l1 := fun a1 l1 h1 j hj => by
    obtain ⟨g1, o1, cu, e1, hb1, hh1, hc1⟩ := h1 (by omega)
    obtain ⟨g2, o2, e2, hl2, q1, q2⟩ := h1.atRow j hj
    rw [e1] at e2
    cases e2
    have hne : ¬ g = g1 := fun e => by
      subst e
      rw [hkn] at hh1
      injection hh1 with hh1
      injection hh1 with _ h2 _
      exact absurd h2 (by decide)
    exact ⟨g1, o1, e1, by simpa using hl2, (World.cell?_setCell_far _ _ _ _ hne).trans q1, (World.cell?_setCell_far _ _ _ _ hne).trans q2⟩
  refine ⟨some ⟨g, 0, none⟩, cv, (es.set x ⟨⟨es[x].t.kind, es[x].t.name, l', es[x].t.text⟩, a7, c7⟩).map (·.t), by rw [hr, List.length_map, hlen], own_tkRow ho' hlen (fun e he => ?_), by rw [List.length_map, hlen]; exact h11, fun t htt => ?_, hcur.grown hg' (fun e => by have := Option.some.inj e; have := h.c.lt; omega) (fun k e => by have := Option.some.inj e; have := h.c.le; omega), g_later hgr hg' hge, by rw [List.length_map, hlen]; exact (own_cap hrow).1, (own_cap hrow).2⟩
  · obtain ⟨j, hj, rfl⟩ := List.mem_iff_getElem.1 he
    rw [List.length_set] at hj
    rw [List.getElem_set]
    by_cases hjx : x = j
    · rw [if_pos hjx]
      exact key _ _ (own_atR ho hll)
    · rw [if_neg hjx]
      have hne : ¬ (Value.slice es[j].a es[j].t.attrs.length es[j].cap).ownBlock = (Value.slice es[x].a es[x].t.attrs.length es[x].cap).ownBlock ∨ (Value.slice es[j].a es[j].t.attrs.length es[j].cap).ownBlock = none := by
        rcases hb : (Value.slice es[j].a es[j].t.attrs.length es[j].cap).ownBlock with _ | k
        · exact .inr rfl
        · refine .inl (fun e => ?_)
          rcases Nat.lt_or_gt_of_ne hjx with h' | h'
          · exact List.pairwise_iff_getElem.1 h.apo x j hx hj h' k e.symm hb
          · exact List.pairwise_iff_getElem.1 h.apo j x hj hx h' k hb e.symm
      have hj7 := (h.own _ (List.getElem_mem hj)).kept hg hne.symm
      exact key _ _ (own_atR hj7 rfl)
  · obtain ⟨e, he, rfl⟩ := List.mem_map.1 htt
    rcases List.mem_or_eq_of_mem_set he with h' | h'
    · obtain ⟨q1, q2, q3, q4⟩ := h.sz e h'
      exact ⟨by omega, by omega, fun y hy => by have := q3 y hy; omega, by omega⟩
    · subst h'
      obtain ⟨q1, q2, q3, q4⟩ := h.sz _ (List.getElem_mem hx)
      refine ⟨by show es[x].t.name.size ≤ 40; omega, by show l'.length ≤ 40; omega, fun y hy => ?_, by show es[x].t.text.size ≤ 40; omega⟩
      rw [hl'] at hy
      rcases List.mem_append.1 hy with h2 | h2
      · have := q3 y h2
        omega
      · rw [List.mem_singleton] at h2
        subst h2
        exact ⟨by show tN.size ≤ 40; omega, by show 1 ≤ 40; omega⟩

end

set_option maxRecDepth 8000 in
set_option maxHeartbeats 8000000 in
theorem cDrawAny (w0 : World) (a : Option Addr) (len cap b : Nat) (w : World) (hlen : len ≤ 4096) (hcr : CodeRow w0 a len) (hC : Cur w0 a len cap b w) :
    Calls Try.prog 32 #[.pointer (some ⟨b, 0, none⟩)] w (DrawnT w0 a len cap b w) := by
  have HR := hid hcr
  have HC := hid hC
  obtain ⟨i0, hi, hz0, hz1, hz2⟩ := info_parts infoAtW
  have HI := hid (And.intro hi (And.intro hz0 (And.intro hz1 hz2)))
  clear hcr hC hi hz0 hz1 hz2
  go_enter Try.func32, Try.ntmps32
  go_wp2_with fail
  refine (cDraw8 w0 a len cap b _ hlen HR.out HC.out).mono ?_
  rintro e w1 ⟨a1, cv, es, at_, rfl, h1, h11, hN⟩
  obtain ⟨g, c2, e1, -, -, hcv, -⟩ := own_pos hN.row.own (by omega)
  cases e1
  obtain ⟨m, hm⟩ : ∃ m, es.length = m + 1 := ⟨es.length - 1, by omega⟩
  rw [hm] at hN h11 hcv ⊢
  have HCV := hid hcv
  have HM := hid hm
  have HN1 := hid hN
  clear hm hN h1 hcv
  go_wp2_with fail
  refine (cOnce 8 w0 a len cap b _ hlen HR.out HN1.out.c.cur (by omega) (by omega)).mono ?_
  rintro e w2 ⟨B2, rfl, hC2, hG2⟩
  have HN2 := hid (HN1.out.draw hC2 hG2)
  clear hC2 hG2 HN1
  cases B2
  · go_wp2_with fail
    go_ret
    exact any_same HN2.out HM.out h11 _ rfl
  have CB := hid (cBelow (m + 1) w0 a len cap b w2 hlen HR.out HN2.out.c.cur (by omega) (by omega))
  go_wp2_with fail
  refine CB.out.mono ?_
  rintro e w3 ⟨x, rfl, hx3, hC3, hG3⟩
  have HN3 := hid (HN2.out.draw hC3 hG3)
  clear hC3 hG3 HN2 CB
  have hxi : (x : Int) < ((m + 1 : Nat) : Int) := by omega
  have HX := hid (show x < es.length by rw [HM.out]; exact hx3)
  go_wp2_with fail
  refine (cBelow 5 w0 a len cap b _ hlen HR.out HN3.out.c.cur (by omega) (by omega)).mono ?_
  rintro e w4 ⟨y, rfl, hy4, hC4, hG4⟩
  have HN4 := hid (HN3.out.draw hC4 hG4)
  clear hC4 hG4 HN3
  rcases (show y = 0 ∨ y = 1 ∨ y = 2 ∨ y = 3 ∨ y = 4 by omega) with rfl | rfl | rfl | rfl | rfl
  · go_wp2_with fail
    refine (cFromA (-2) 8 5 (by omega) (by omega) (by omega) (by omega) (by omega) w0 a len cap b _ hlen HR.out HN4.out.c.cur).mono ?_
    rintro e w5 ⟨z, rfl, hz1, hz2, hC5, hG5⟩
    have HN5 := hid (HN4.out.draw hC5 hG5)
    obtain ⟨⟨s0, s1, s2, s3⟩, sf⟩ := slot_of HN5.out HM.out HX.out
    have sf0 := sf (x * 4)
    clear hC5 hG5 s1 s2 s3 sf
    go_wp2_with fail
    go_ret
    exact any_set HN5.out HM.out HX.out h11 (f := 0) (by omega) (u := .int .i64 z) (t' := ⟨z, (es[x]'HX.out).t.name, (es[x]'HX.out).t.attrs, (es[x]'HX.out).t.text⟩) rfl rfl (by
      obtain ⟨q1, q2, q3, q4⟩ := HN5.out.sz _ (List.getElem_mem HX.out)
      exact ⟨by show (es[x]'HX.out).t.name.size ≤ 40; omega, by show (es[x]'HX.out).t.attrs.length ≤ 40; omega, fun y hy => by have := q3 y hy; omega, by show (es[x]'HX.out).t.text.size ≤ 40; omega⟩) _ rfl
  · go_wp2_with fail
    refine (cName w0 a len cap b _ hlen HR.out HN4.out.c.cur).mono ?_
    rintro e w5 ⟨z, rfl, hz1, hC5, hG5⟩
    have HN5 := hid (HN4.out.draw hC5 hG5)
    obtain ⟨⟨s0, s1, s2, s3⟩, sf⟩ := slot_of HN5.out HM.out HX.out
    have sf0 := sf (x * 4 + 1)
    clear hC5 hG5 s0 s2 s3 sf
    go_wp2_with fail
    go_ret
    exact any_set HN5.out HM.out HX.out h11 (f := 1) (by omega) (u := .string z) (t' := ⟨(es[x]'HX.out).t.kind, z, (es[x]'HX.out).t.attrs, (es[x]'HX.out).t.text⟩) rfl rfl (by
      obtain ⟨q1, q2, q3, q4⟩ := HN5.out.sz _ (List.getElem_mem HX.out)
      exact ⟨by show z.size ≤ 40; omega, by show (es[x]'HX.out).t.attrs.length ≤ 40; omega, fun y hy => by have := q3 y hy; omega, by show (es[x]'HX.out).t.text.size ≤ 40; omega⟩) _ rfl
  · go_wp2_with fail
    refine (cText ⟨#[97, 98]⟩ 3 w0 a len cap b _ (by omega) (by omega) (by decide) (by decide) hlen HR.out HN4.out.c.cur).mono ?_
    rintro e w5 ⟨z, rfl, hz1, hC5, hG5⟩
    have HN5 := hid (HN4.out.draw hC5 hG5)
    obtain ⟨⟨s0, s1, s2, s3⟩, sf⟩ := slot_of HN5.out HM.out HX.out
    have sf0 := sf (x * 4 + 3)
    clear hC5 hG5 s0 s1 s2 sf
    go_wp2_with fail
    go_ret
    exact any_set HN5.out HM.out HX.out h11 (f := 3) (by omega) (u := .string z) (t' := ⟨(es[x]'HX.out).t.kind, (es[x]'HX.out).t.name, (es[x]'HX.out).t.attrs, z⟩) rfl rfl (by
      obtain ⟨q1, q2, q3, q4⟩ := HN5.out.sz _ (List.getElem_mem HX.out)
      exact ⟨by show (es[x]'HX.out).t.name.size ≤ 40; omega, by show (es[x]'HX.out).t.attrs.length ≤ 40; omega, fun y hy => by have := q3 y hy; omega, by show z.size ≤ 40; omega⟩) _ rfl
  · go_upto_region 12 with fail
    have HAL := hid (HN4.out.sz _ (List.getElem_mem HX.out)).2.1
    refine wp_region_held_drew (S := fun _ => True) (by kernel_rfl) trivial (fun _ => ?_)
    have HS := hid (show NSt w0 a len cap b w w4.drew (.slice (some ⟨g, 0, none⟩) (m + 1) cv) es at_ from HN4.out.drewN 1)
    generalize w4.drew = W at *
    refine wpAnyH_take (i := 0) (v := ?_) rfl (by kernel_rfl) (by kernel_rfl) (by kernel_rfl) (fun _ _ _ h => h) (Or.inl ⟨by rfl, ?_⟩) trivial ?_
    rotate_left
    · intro w hSw
      go_simp
      try (with_reducible rfl)
    try simp only [Act.put, List.setIfInBounds_toArray, List.set_cons_zero, List.set_cons_succ]
    refine wpAnyH_take (i := 1) (v := ?_) rfl (by kernel_rfl) (by kernel_rfl) (by kernel_rfl) (fun _ _ _ h => h) (Or.inl ⟨by rfl, ?_⟩) trivial ?_
    rotate_left
    · intro w hSw
      go_simp
      try (with_reducible rfl)
    try simp only [Act.put, List.setIfInBounds_toArray, List.set_cons_zero, List.set_cons_succ]
    refine wpAnyH_take (i := 5) (v := ?_) rfl (by kernel_rfl) (by kernel_rfl) (by kernel_rfl) (fun _ _ _ h => h) (Or.inl ⟨by rfl, ?_⟩) trivial ?_
    rotate_left
    · intro w hSw
      go_simp
      try (with_reducible rfl)
    try simp only [Act.put, List.setIfInBounds_toArray, List.set_cons_zero, List.set_cons_succ]
    refine wpAnyH_take (i := 2) (v := ?_) rfl (by kernel_rfl) (by kernel_rfl) (by kernel_rfl) (fun _ _ _ h => h) (Or.inl ⟨by rfl, ?_⟩) trivial ?_
    rotate_left
    · intro w hSw
      go_simp
      try (with_reducible rfl)
    try simp only [Act.put, List.setIfInBounds_toArray, List.set_cons_zero, List.set_cons_succ]
    refine wpAnyH_take (i := 3) (v := ?_) rfl (by kernel_rfl) (by kernel_rfl) (by kernel_rfl) (fun _ _ _ h => h) (Or.inl ⟨by rfl, ?_⟩) trivial ?_
    rotate_left
    · intro w hSw
      go_simp
      try (with_reducible rfl)
    try simp only [Act.put, List.setIfInBounds_toArray, List.set_cons_zero, List.set_cons_succ]
    refine wpAnyH_ready (rs := [4, 6]) (by kernel_rfl) (by simp) (AllReadyH.cons rfl (fun K hK => ?_) (AllReadyH.cons rfl (fun K hK => ?_) AllReadyH.nil))
    · have cF := (slot_of HS.out HM.out HX.out).1.2.2.1
      go_simp
      refine hK.out _ _ trivial (fun _ => ?_)
      clear hK K
      try simp only [Act.put, List.setIfInBounds_toArray, List.set_cons_zero, List.set_cons_succ]
      clear cF
      refine wpAnyH_ready (rs := [6]) (by kernel_rfl) (by simp) (AllReadyH.cons rfl (fun K hK => ?_) AllReadyH.nil)
      · go_simp
        refine (cName w0 a len cap b _ hlen HR.out HS.out.c.cur).mono ?_
        rintro e W2 ⟨tN, rfl, htN, hC, hG⟩
        replace HS := hid (HS.out.draw hC hG)
        clear hC hG
        go_wp2_with fail
        refine hK.out _ _ trivial (fun _ => ?_)
        clear hK K
        try simp only [Act.put, List.setIfInBounds_toArray, List.set_cons_zero, List.set_cons_succ]
        generalize W2 = W at *
        refine wpAnyH_take (i := 7) (v := ?_) rfl (by kernel_rfl) (by kernel_rfl) (by kernel_rfl) (fun _ _ _ h => h) (Or.inl ⟨by rfl, ?_⟩) trivial ?_
        rotate_left
        · intro w hSw
          go_simp
          try (with_reducible rfl)
        try simp only [Act.put, List.setIfInBounds_toArray, List.set_cons_zero, List.set_cons_succ]
        refine wpAnyH_ready (rs := [8]) (by kernel_rfl) (by simp) (AllReadyH.cons rfl (fun K hK => ?_) AllReadyH.nil)
        · have HNE := hid (two_cells W (.string tN) (.string ⟨#[118]⟩) 66)
          have HZW := hid (show w.heap.size ≤ (W.alloc (.cells #[.string tN, .string ⟨#[118]⟩] 66)).heap.size from (HS.out.alloc (.cells #[.string tN, .string ⟨#[118]⟩] 66)).c.gr.size)
          go_simp
          refine hK.out _ _ trivial (fun _ => ?_)
          clear hK K
          try simp only [Act.put, List.setIfInBounds_toArray, List.set_cons_zero, List.set_cons_succ]
          replace HS := hid (HS.out.alloc (.cells #[.string tN, .string ⟨#[118]⟩] 66))
          generalize W.heap.size = gn at *
          generalize W.alloc (.cells #[.string tN, .string ⟨#[118]⟩] 66) = W at *
          refine wpAnyH_ready (rs := [9]) (by kernel_rfl) (by simp) (AllReadyH.cons rfl (fun K hK => ?_) AllReadyH.nil)
          · refine step_app_at rfl (.tmp 44) (.tmp 48) 54 rfl w.heap.size 66 i0 _ 2 32 Try.underlying54 HI.out.1 HI.out.2.1 HI.out.2.2.1 HI.out.2.2.2 rfl (by decide) (.slice (es[x]'HX.out).a (es[x]'HX.out).t.attrs.length (es[x]'HX.out).cap) (es[x]'HX.out).t.attrs.length (atC (es[x]'HX.out).t.attrs) (by simp [Act.eval, Act.put]) (HS.out.own _ (List.getElem_mem HX.out)) ⟨gn, 0, none⟩ 1 1 [.string tN, .string ⟨#[118]⟩] (by simp [Act.eval, Act.put]) rfl HNE.out (two_one tN) (by have := HAL.out; unfold maxLen; omega) (by have := HAL.out; omega) HZW.out ?_
            intro v7 w7 hown7 hgrow7 _
            have H7 := hid (any_app HS.out HM.out HX.out h11 htN hown7 hgrow7)
            obtain ⟨a7, c7, hv7⟩ := own_len hown7
            obtain ⟨⟨s0, s1, s2, s3⟩, sf⟩ := slot_grown HS.out HM.out HX.out hgrow7
            have sf2 := sf (x * 4 + 2)
            subst hv7
            clear hown7 hgrow7 sf s0 s1 s3
            refine hK.out _ _ trivial (fun _ => ?_)
            clear hK K
            try simp only [Act.put, List.setIfInBounds_toArray, List.set_cons_zero, List.set_cons_succ]
            refine wpAnyH_take (i := 10) (v := ?_) rfl (by kernel_rfl) (by kernel_rfl) (by kernel_rfl) (fun _ _ _ h => h) (Or.inl ⟨by rfl, ?_⟩) trivial ?_
            rotate_left
            · intro w hSw
              go_simp
              try (with_reducible rfl)
            try simp only [Act.put, List.setIfInBounds_toArray, List.set_cons_zero, List.set_cons_succ]
            refine wpAnyH_take (i := 11) (v := ?_) rfl (by kernel_rfl) (by kernel_rfl) (by kernel_rfl) (fun _ _ _ h => h) (Or.inl ⟨by rfl, ?_⟩) trivial ?_
            rotate_left
            · intro w hSw
              go_simp
              try (with_reducible rfl)
            try simp only [Act.put, List.setIfInBounds_toArray, List.set_cons_zero, List.set_cons_succ]
            refine wpAnyH_ready (rs := [12]) (by kernel_rfl) (by simp) (AllReadyH.cons rfl (fun K hK => ?_) AllReadyH.nil)
            · go_simp
              refine hK.out _ _ trivial (fun _ => ?_)
              clear hK K
              try simp only [Act.put, List.setIfInBounds_toArray, List.set_cons_zero, List.set_cons_succ]
              refine wpAnyH_done (by kernel_rfl) ?_ _
              go_wp2_with fail
              go_ret
              exact H7.out _ _ rfl _ rfl
    · go_simp
      refine (cName w0 a len cap b _ hlen HR.out HS.out.c.cur).mono ?_
      rintro e W2 ⟨tN, rfl, htN, hC, hG⟩
      replace HS := hid (HS.out.draw hC hG)
      clear hC hG
      go_wp2_with fail
      refine hK.out _ _ trivial (fun _ => ?_)
      clear hK K
      try simp only [Act.put, List.setIfInBounds_toArray, List.set_cons_zero, List.set_cons_succ]
      generalize W2 = W at *
      refine wpAnyH_take (i := 7) (v := ?_) rfl (by kernel_rfl) (by kernel_rfl) (by kernel_rfl) (fun _ _ _ h => h) (Or.inl ⟨by rfl, ?_⟩) trivial ?_
      rotate_left
      · intro w hSw
        go_simp
        try (with_reducible rfl)
      try simp only [Act.put, List.setIfInBounds_toArray, List.set_cons_zero, List.set_cons_succ]
      refine wpAnyH_ready (rs := [4, 8]) (by kernel_rfl) (by simp) (AllReadyH.cons rfl (fun K hK => ?_) (AllReadyH.cons rfl (fun K hK => ?_) AllReadyH.nil))
      · have cF := (slot_of HS.out HM.out HX.out).1.2.2.1
        go_simp
        refine hK.out _ _ trivial (fun _ => ?_)
        clear hK K
        try simp only [Act.put, List.setIfInBounds_toArray, List.set_cons_zero, List.set_cons_succ]
        clear cF
        refine wpAnyH_ready (rs := [8]) (by kernel_rfl) (by simp) (AllReadyH.cons rfl (fun K hK => ?_) AllReadyH.nil)
        · have HNE := hid (two_cells W (.string tN) (.string ⟨#[118]⟩) 66)
          have HZW := hid (show w.heap.size ≤ (W.alloc (.cells #[.string tN, .string ⟨#[118]⟩] 66)).heap.size from (HS.out.alloc (.cells #[.string tN, .string ⟨#[118]⟩] 66)).c.gr.size)
          go_simp
          refine hK.out _ _ trivial (fun _ => ?_)
          clear hK K
          try simp only [Act.put, List.setIfInBounds_toArray, List.set_cons_zero, List.set_cons_succ]
          replace HS := hid (HS.out.alloc (.cells #[.string tN, .string ⟨#[118]⟩] 66))
          generalize W.heap.size = gn at *
          generalize W.alloc (.cells #[.string tN, .string ⟨#[118]⟩] 66) = W at *
          refine wpAnyH_ready (rs := [9]) (by kernel_rfl) (by simp) (AllReadyH.cons rfl (fun K hK => ?_) AllReadyH.nil)
          · refine step_app_at rfl (.tmp 44) (.tmp 48) 54 rfl w.heap.size 66 i0 _ 2 32 Try.underlying54 HI.out.1 HI.out.2.1 HI.out.2.2.1 HI.out.2.2.2 rfl (by decide) (.slice (es[x]'HX.out).a (es[x]'HX.out).t.attrs.length (es[x]'HX.out).cap) (es[x]'HX.out).t.attrs.length (atC (es[x]'HX.out).t.attrs) (by simp [Act.eval, Act.put]) (HS.out.own _ (List.getElem_mem HX.out)) ⟨gn, 0, none⟩ 1 1 [.string tN, .string ⟨#[118]⟩] (by simp [Act.eval, Act.put]) rfl HNE.out (two_one tN) (by have := HAL.out; unfold maxLen; omega) (by have := HAL.out; omega) HZW.out ?_
            intro v7 w7 hown7 hgrow7 _
            have H7 := hid (any_app HS.out HM.out HX.out h11 htN hown7 hgrow7)
            obtain ⟨a7, c7, hv7⟩ := own_len hown7
            obtain ⟨⟨s0, s1, s2, s3⟩, sf⟩ := slot_grown HS.out HM.out HX.out hgrow7
            have sf2 := sf (x * 4 + 2)
            subst hv7
            clear hown7 hgrow7 sf s0 s1 s3
            refine hK.out _ _ trivial (fun _ => ?_)
            clear hK K
            try simp only [Act.put, List.setIfInBounds_toArray, List.set_cons_zero, List.set_cons_succ]
            refine wpAnyH_take (i := 10) (v := ?_) rfl (by kernel_rfl) (by kernel_rfl) (by kernel_rfl) (fun _ _ _ h => h) (Or.inl ⟨by rfl, ?_⟩) trivial ?_
            rotate_left
            · intro w hSw
              go_simp
              try (with_reducible rfl)
            try simp only [Act.put, List.setIfInBounds_toArray, List.set_cons_zero, List.set_cons_succ]
            refine wpAnyH_take (i := 11) (v := ?_) rfl (by kernel_rfl) (by kernel_rfl) (by kernel_rfl) (fun _ _ _ h => h) (Or.inl ⟨by rfl, ?_⟩) trivial ?_
            rotate_left
            · intro w hSw
              go_simp
              try (with_reducible rfl)
            try simp only [Act.put, List.setIfInBounds_toArray, List.set_cons_zero, List.set_cons_succ]
            refine wpAnyH_ready (rs := [12]) (by kernel_rfl) (by simp) (AllReadyH.cons rfl (fun K hK => ?_) AllReadyH.nil)
            · go_simp
              refine hK.out _ _ trivial (fun _ => ?_)
              clear hK K
              try simp only [Act.put, List.setIfInBounds_toArray, List.set_cons_zero, List.set_cons_succ]
              refine wpAnyH_done (by kernel_rfl) ?_ _
              go_wp2_with fail
              go_ret
              exact H7.out _ _ rfl _ rfl
      · have HNE := hid (two_cells W (.string tN) (.string ⟨#[118]⟩) 66)
        have HZW := hid (show w.heap.size ≤ (W.alloc (.cells #[.string tN, .string ⟨#[118]⟩] 66)).heap.size from (HS.out.alloc (.cells #[.string tN, .string ⟨#[118]⟩] 66)).c.gr.size)
        go_simp
        refine hK.out _ _ trivial (fun _ => ?_)
        clear hK K
        try simp only [Act.put, List.setIfInBounds_toArray, List.set_cons_zero, List.set_cons_succ]
        replace HS := hid (HS.out.alloc (.cells #[.string tN, .string ⟨#[118]⟩] 66))
        generalize W.heap.size = gn at *
        generalize W.alloc (.cells #[.string tN, .string ⟨#[118]⟩] 66) = W at *
        refine wpAnyH_ready (rs := [4]) (by kernel_rfl) (by simp) (AllReadyH.cons rfl (fun K hK => ?_) AllReadyH.nil)
        · have cF := (slot_of HS.out HM.out HX.out).1.2.2.1
          go_simp
          refine hK.out _ _ trivial (fun _ => ?_)
          clear hK K
          try simp only [Act.put, List.setIfInBounds_toArray, List.set_cons_zero, List.set_cons_succ]
          clear cF
          refine wpAnyH_ready (rs := [9]) (by kernel_rfl) (by simp) (AllReadyH.cons rfl (fun K hK => ?_) AllReadyH.nil)
          · refine step_app_at rfl (.tmp 44) (.tmp 48) 54 rfl w.heap.size 66 i0 _ 2 32 Try.underlying54 HI.out.1 HI.out.2.1 HI.out.2.2.1 HI.out.2.2.2 rfl (by decide) (.slice (es[x]'HX.out).a (es[x]'HX.out).t.attrs.length (es[x]'HX.out).cap) (es[x]'HX.out).t.attrs.length (atC (es[x]'HX.out).t.attrs) (by simp [Act.eval, Act.put]) (HS.out.own _ (List.getElem_mem HX.out)) ⟨gn, 0, none⟩ 1 1 [.string tN, .string ⟨#[118]⟩] (by simp [Act.eval, Act.put]) rfl HNE.out (two_one tN) (by have := HAL.out; unfold maxLen; omega) (by have := HAL.out; omega) HZW.out ?_
            intro v7 w7 hown7 hgrow7 _
            have H7 := hid (any_app HS.out HM.out HX.out h11 htN hown7 hgrow7)
            obtain ⟨a7, c7, hv7⟩ := own_len hown7
            obtain ⟨⟨s0, s1, s2, s3⟩, sf⟩ := slot_grown HS.out HM.out HX.out hgrow7
            have sf2 := sf (x * 4 + 2)
            subst hv7
            clear hown7 hgrow7 sf s0 s1 s3
            refine hK.out _ _ trivial (fun _ => ?_)
            clear hK K
            try simp only [Act.put, List.setIfInBounds_toArray, List.set_cons_zero, List.set_cons_succ]
            refine wpAnyH_take (i := 10) (v := ?_) rfl (by kernel_rfl) (by kernel_rfl) (by kernel_rfl) (fun _ _ _ h => h) (Or.inl ⟨by rfl, ?_⟩) trivial ?_
            rotate_left
            · intro w hSw
              go_simp
              try (with_reducible rfl)
            try simp only [Act.put, List.setIfInBounds_toArray, List.set_cons_zero, List.set_cons_succ]
            refine wpAnyH_take (i := 11) (v := ?_) rfl (by kernel_rfl) (by kernel_rfl) (by kernel_rfl) (fun _ _ _ h => h) (Or.inl ⟨by rfl, ?_⟩) trivial ?_
            rotate_left
            · intro w hSw
              go_simp
              try (with_reducible rfl)
            try simp only [Act.put, List.setIfInBounds_toArray, List.set_cons_zero, List.set_cons_succ]
            refine wpAnyH_ready (rs := [12]) (by kernel_rfl) (by simp) (AllReadyH.cons rfl (fun K hK => ?_) AllReadyH.nil)
            · go_simp
              refine hK.out _ _ trivial (fun _ => ?_)
              clear hK K
              try simp only [Act.put, List.setIfInBounds_toArray, List.set_cons_zero, List.set_cons_succ]
              refine wpAnyH_done (by kernel_rfl) ?_ _
              go_wp2_with fail
              go_ret
              exact H7.out _ _ rfl _ rfl
  · by_cases hc1 : cv = 1
    · obtain rfl : m = 0 := by have := HCV.out; omega
      subst hc1
      go_wp2_with fail
      go_ret
      exact any_nil HN4.out _ _ _ rfl (by unfold maxLen; omega)
    · go_wp2_with fail
      go_ret
      exact any_less HN4.out HM.out h11 _ _ rfl rfl

/-- A place in a tree, or beside it. -/
theorem cDrawAt (a' : Option Addr) (n c' : Nat) (hn : n ≤ 11) (w0 : World) (a : Option Addr) (len cap b : Nat) (w : World) (hlen : len ≤ 4096) (hcr : CodeRow w0 a len) (hC : Cur w0 a len cap b w) :
    Calls Try.prog 62 #[.pointer (some ⟨b, 0, none⟩), .slice a' n c'] w fun e w' => ∃ x : Int, e = .returned (.int .i64 x) ∧ -1 ≤ x ∧ x ≤ 12 ∧ Cur w0 a len cap b w' ∧ w.grownBy w' (some b) := by
  have HR := hid hcr
  have HC := hid hC
  clear hcr hC
  by_cases h0 : n = 0
  · subst h0
    go_enter Try.func62, Try.ntmps62
    go_wp2_with fail
    refine (cFromA (-1) 14 12 (by omega) (by omega) (by omega) (by omega) (by omega) w0 a len cap b _ hlen HR.out HC.out).mono ?_
    rintro e w1 ⟨x, rfl, hx1, hx2, hC1, hG1⟩
    have HC1 := hid hC1
    have HG1 := hid hG1
    clear hC1 hG1
    go_wp2_with fail
    go_ret
    exact ⟨_, rfl, hx1, hx2, HC1.out, HG1.out⟩
  · have hd : decide ((0 : Int) < (n : Int)) = true := decide_eq_true (by omega)
    have hp : (0 : Int) < (n : Int) := by omega
    have CB := hid (fun wx (h : Cur w0 a len cap b wx) => cBelow n w0 a len cap b wx hlen HR.out h (by omega) (by omega))
    go_enter Try.func62, Try.ntmps62
    go_wp2_with fail
    refine (cOnce 10 w0 a len cap b _ hlen HR.out HC.out (by omega) (by omega)).mono ?_
    rintro e w1 ⟨B1, rfl, hC1, hG1⟩
    have HC1 := hid hC1
    have HG1 := hid hG1
    clear hC1 hG1
    cases B1
    · go_wp2_with fail
      refine (CB.out _ HC1.out).mono ?_
      rintro e w2 ⟨x, rfl, hx, hC2, hG2⟩
      have HX := hid hx
      have HC2 := hid hC2
      have HG2 := hid (gtrans HG1.out hG2)
      clear hC2 hG2 hx
      go_wp2_with fail
      go_ret
      exact ⟨_, rfl, by omega, by have := HX.out; omega, HC2.out, HG2.out⟩
    · go_wp2_with fail
      refine (cFromA (-1) 14 12 (by omega) (by omega) (by omega) (by omega) (by omega) w0 a len cap b _ hlen HR.out HC1.out).mono ?_
      rintro e w2 ⟨x, rfl, hx1, hx2, hC2, hG2⟩
      have HC2 := hid hC2
      have HG2 := hid (gtrans HG1.out hG2)
      clear hC2 hG2
      go_wp2_with fail
      go_ret
      exact ⟨_, rfl, hx1, hx2, HC2.out, HG2.out⟩

theorem cur_str {w0 : World} {a : Option Addr} {len cap b : Nat} {w1 : World} (hC : Cur w0 a len cap b w1) {g k : Nat} {t : ByteArray} (h : w1.cell? ⟨g, k, none⟩ = some (.string t)) : some b ≠ some g := by
  intro e
  cases e
  obtain ⟨_, _, i, x, _, _, hh⟩ := hC
  rw [Lib.cell_of_heap hh] at h
  match k, h with
  | 0, h => simp at h
  | 1, h => simp at h
  | 2, h => simp at h
  | k + 3, h => simp at h

/-- What was drawn stays when the cursor goes on. -/
theorem tk_keep {w0 w1 w2 : World} {a : Option Addr} {len cap b : Nat} {a' : Option Addr} {ts : List Tk} (h : TkRow w1 a' ts) (hC : Cur w0 a len cap b w1) (hg : w1.grownBy w2 (some b)) : TkRow w2 a' ts := by
  intro j hj
  obtain ⟨g, o, aa, ca, e, hlt, q0, q1, q2, q3, q4⟩ := h j hj
  have hne := cur_str hC q1
  exact ⟨g, o, aa, ca, e, Nat.lt_of_lt_of_le hlt hg.size, cell_grownR hg q0 hlt hne, cell_grownR hg q1 hlt hne, cell_grownR hg q2 hlt hne, cell_grownR hg q3 hlt hne, fun i hi => by
    obtain ⟨g1, o1, e1, hl1, p1, p2⟩ := q4 i hi
    exact ⟨g1, o1, e1, Nat.lt_of_lt_of_le hl1 hg.size, cell_grownR hg p1 hl1 (cur_str hC p1), cell_grownR hg p2 hl1 (cur_str hC p2)⟩⟩

end Go.Proofs.Ytbiblabmhlgnoaa

namespace Go.Proofs.Ytbiblabmhlgnoaa
open Go.RowKit
set_option linter.unusedVariables false
set_option linter.unusedSimpArgs false

/-- A tree that was drawn. -/
def DrawnY (w : World) (e : Ending) (w' : World) : Prop :=
  ∃ a' c' ts, e = .returned (.slice a' (ts : List Tk).length c') ∧ TkRow w' a' ts ∧ ts.length ≤ 11 ∧ TksSz 40 ts ∧ Below w.heap.size w w'

theorem blk_grownX {w w1 : World} {b B : Nat} {o : Obj} (g : w.grownBy w1 (some b)) (hne : ¬ B = b) (h : w.heap[B]? = some o) : w1.heap[B]? = some o :=
  (g.block B (lt_of_heap h) (fun h => hne (Option.some.inj h))).trans h

abbrev tab4X : Obj := .cells #[.string ⟨#[]⟩, .string ⟨#[112]⟩, .string ⟨#[113]⟩, .string ⟨#[122]⟩] 9

theorem tab4_at (w : World) (B x : Nat) (hx : x < 4) (h : w.heap[B]? = some tab4X) : ∃ t : ByteArray, w.cell? ⟨B, x, none⟩ = some (.string t) ∧ (t = ⟨#[]⟩ ∨ t = ⟨#[112]⟩ ∨ t = ⟨#[113]⟩ ∨ t = ⟨#[122]⟩) := by
  rw [Lib.cell_of_heap (show w.heap[B]? = some (.cells #[.string ⟨#[]⟩, .string ⟨#[112]⟩, .string ⟨#[113]⟩, .string ⟨#[122]⟩] 9 (0, 0)) from h)]
  rcases (show x = 0 ∨ x = 1 ∨ x = 2 ∨ x = 3 from by omega) with rfl | rfl | rfl | rfl
  · exact ⟨_, rfl, .inl rfl⟩
  · exact ⟨_, rfl, .inr (.inl rfl)⟩
  · exact ⟨_, rfl, .inr (.inr (.inl rfl))⟩
  · exact ⟨_, rfl, .inr (.inr (.inr rfl))⟩

/-- A tree, a place, a prefix. -/
def DrawnM (w : World) (e : Ending) (w' : World) : Prop :=
  ∃ a' c' ts x p, e = .returned (.tuple #[.slice a' (ts : List Tk).length c', .int .i64 x, .string p]) ∧ TkRow w' a' ts ∧ ts.length ≤ 11 ∧ TksSz 40 ts ∧ -1 ≤ x ∧ x ≤ 12 ∧ (p = ⟨#[]⟩ ∨ p = ⟨#[112]⟩ ∨ p = ⟨#[113]⟩ ∨ p = ⟨#[122]⟩) ∧ Below w.heap.size w w'

end Go.Proofs.Ytbiblabmhlgnoaa

namespace Go.Proofs.Ytbiblabmhlgnoaa
open Go.RowKit
set_option linter.unusedVariables false
set_option linter.unusedSimpArgs false

/-- A tree and a place. -/
def DrawnG (w : World) (e : Ending) (w' : World) : Prop :=
  ∃ a' c' ts x, e = .returned (.tuple #[.slice a' (ts : List Tk).length c', .int .i64 x]) ∧ TkRow w' a' ts ∧ ts.length ≤ 11 ∧ TksSz 40 ts ∧ (-1 ≤ x ∧ x ≤ 12) ∧ (ts.length ≤ c' ∧ c' ≤ maxLen) ∧ Below w.heap.size w w'

set_option maxHeartbeats 1000000 in
theorem cDrawEndOfG (a : Option Addr) (len cap : Nat) (w : World) (hlen : len ≤ 4096) (hcr : CodeRow w a len) :
    Calls Try.prog 37 #[.slice a len cap] w (DrawnG w) := by
  have HR := hid hcr
  clear hcr
  go_enter Try.func37, Try.ntmps37
  go_wp2_with fail
  refine (cNew a len cap _ hlen HR.out).mono ?_
  rintro e w1 ⟨rfl, hC1⟩
  have HC1 := hid hC1
  clear hC1
  go_wp2_with fail
  refine (cDrawAny w a len cap _ _ hlen HR.out HC1.out).mono ?_
  rintro e w2 ⟨a', c', ts, rfl, hrow, hn, hz, hC2, _, hc1, hc2⟩
  have HC2 := hid hC2
  have HT := hid hrow
  have HN := hid hn
  have HZ := hid hz
  have HCP := hid (And.intro hc1 hc2)
  have CA := hid (cDrawAt a' ts.length c' hn w a len cap _ w2 hlen HR.out hC2)
  clear hrow hn hz hC2 hc1 hc2
  obtain ⟨LL, hLL⟩ : ∃ LL, ts.length = LL := ⟨_, rfl⟩
  have HLL := hid hLL
  rw [hLL] at CA HN ⊢
  clear hLL
  go_wp2_with fail
  refine CA.out.mono ?_
  rintro e w3 ⟨x, rfl, hx1, hx2, hC3, hG3⟩
  have HT3 := hid (tk_keep HT.out HC2.out hG3)
  have HB := hid hC3.2.1
  have HX := hid (And.intro hx1 hx2)
  clear hC3 hG3 CA
  go_wp2_with fail
  go_ret2
  exact ⟨a', c', ts, x, by rw [HLL.out]; rfl, HT3.out, by rw [HLL.out]; exact HN.out, HZ.out, HX.out, HCP.out, HB.out⟩

end Go.Proofs.Ytbiblabmhlgnoaa
