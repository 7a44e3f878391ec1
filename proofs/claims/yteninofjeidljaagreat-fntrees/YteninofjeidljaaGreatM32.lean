/- Contracts of the draws of a tree that may be bent (l8DrawAny), of a place in it (l8DrawAt), of both (DrawEndOf, DrawKidsOf). The region of l7DrawAny that draws its order. The draw of a token, whatever it is: l7DrawAny. Contract of the bending of a text that may be long. -/
import Derived.Test.YteninofjeidljaaGreatM31
import Derived.Test.YteninofjeidljaaGreatM29
import Derived.Test.YteninofjeidljaaGreatM30
import Derived.Laws.OwnMore
import Derived.Deep.RegionHeld3
import Derived.Deep.CutRange
import Derived.WalkKit
import Derived.OwnWalk
import Derived.Laws.IdiomStrings
import Derived.Deep.RegionLaw
import Derived.Deep.QuietTactic
import Derived.BigQuiet
namespace Go.Proofs.YteninofjeidljaaGreat

open Go.RowKit

set_option linter.unusedVariables false

set_option linter.unusedSimpArgs false

set_option maxHeartbeats 2000000 in
theorem cFromA (lo : Int) (n : Nat) (hi : Int) (hlo : -100 ≤ lo) (hlo2 : lo ≤ 100) (hn : hi - lo + 1 = (n : Int)) (hn0 : 1 ≤ n) (hn1 : n ≤ 256) (w0 : World) (a : Option Addr) (len cap b : Nat) (w : World) (hlen : len ≤ 4096) (hcr : CodeRow w0 a len) (hC : Cur w0 a len cap b w) :
    Calls Tryz.prog 94 #[.pointer (some ⟨b, 0, none⟩), .int .i64 lo, .int .i64 hi] w fun e w' => ∃ x : Int, e = .returned (.int .i64 x) ∧ lo ≤ x ∧ x ≤ hi ∧ Cur w0 a len cap b w' ∧ w.grownBy w' (some b) := by
  have HR : Hid (CodeRow w0 a len) := hcr
  have HC : Hid (Cur w0 a len cap b w) := hC
  have HNN := hid hn
  have hi1 : hi ≤ 1000 := by omega
  have hi2 : -1000 ≤ hi := by omega
  have C := hid (cBelow n w0 a len cap b w hlen HR.out HC.out hn0 hn1)
  rw [← hn] at C
  clear hcr hC hn
  go_enter Tryz.func94, Tryz.ntmps94
  go_wp2_with fail
  refine C.out.mono ?_
  rintro e w1 ⟨x, rfl, hx, hC1, hG1⟩
  have hx2 : (x : Int) < 300 := by omega
  have HX := hid hx
  have HC1 := hid hC1
  have HG1 := hid hG1
  clear hC1 hG1 C hx
  go_wp2_with fail
  go_ret
  exact ⟨_, rfl, by omega, by have := HNN.out; have := HX.out; omega, HC1.out, HG1.out⟩

/-- A drawn tree, well laid. -/
def DrawnT (w0 : World) (a : Option Addr) (len cap b : Nat) (w : World) (e : Ending) (w' : World) : Prop :=
  ∃ a' c' ts, e = .returned (.slice a' (ts : List Tk).length c') ∧ TkRow w' a' ts ∧ ts.length ≤ 11 ∧ TksV 40 ts ∧ Cur w0 a len cap b w' ∧ w.grownBy w' (some b) ∧ ts.length ≤ c' ∧ c' ≤ maxLen

theorem own_cap {w : World} {B size g n c : Nat} {e : TypeId} {xs : List Value} (h : w.ownsRow B e size (.slice (some ⟨g, 0, none⟩) n c) n xs) : n ≤ c ∧ c ≤ maxLen := by
  rcases h.2 with ⟨h', _⟩ | ⟨g', cap', cur, h', _, _, hn, hc, _⟩
  · cases h'
  · cases h'
    exact ⟨hn, hc⟩

theorem cs_set {es : List Nd.E} : ∀ {x : Nat} (hx : x < es.length) {f : Nat} (hf : f < 4) {u : Value} {e' : Nd.E}, Nd.c1 e' = (Nd.c1 es[x]).set f u → (Nd.cs es).set (x * 4 + f) u = Nd.cs (es.set x e') := by
  induction es with
  | nil => intro x hx; simp at hx
  | cons y es ih =>
    intro x hx f hf u e' he
    have e1 : Nd.cs (y :: es) = Nd.c1 y ++ Nd.cs es := rfl
    have hl : (Nd.c1 y).length = 4 := rfl
    match x with
    | 0 =>
      simp only [List.getElem_cons_zero] at he
      have e2 : Nd.cs ((y :: es).set 0 e') = Nd.c1 e' ++ Nd.cs es := rfl
      rw [e1, e2, he, Nat.zero_mul, Nat.zero_add, List.set_append, if_pos (by rw [hl]; exact hf)]
    | x + 1 =>
      have e2 : Nd.cs ((y :: es).set (x + 1) e') = Nd.c1 y ++ Nd.cs (es.set x e') := rfl
      rw [e1, e2, List.set_append, if_neg (by rw [hl]; omega), hl, show (x + 1) * 4 + f - 4 = x * 4 + f by omega, ih (by simpa using hx) hf (by simpa using he)]

/-- A row of nodes that is owned, its lists read. -/
theorem own_tkRow {w : World} {B g n cap : Nat} {es : List Nd.E} (h : w.ownsRow B 42 4 (.slice (some ⟨g, 0, none⟩) n cap) n (Nd.cs es)) (hn : es.length = n) (ha : ∀ e ∈ es, AtRow w e.a e.t.attrs) : TkRow w (some ⟨g, 0, none⟩) (es.map (·.t)) := by
  intro j hj
  rw [List.length_map] at hj
  obtain ⟨k0, k1, k2, k3⟩ := Nd.cs_get es j hj
  have hg : g < w.heap.size := (h.lt g rfl).2
  have hx : ∀ k u, k < n * 4 → (Nd.cs es)[k]? = some u → w.cell? ⟨g, 0 + k, none⟩ = some u := fun k u hk hu => by rw [Nat.zero_add, h.cellAt k hk]; exact hu
  rw [List.getElem_map]
  exact ⟨g, 0, es[j].a, es[j].cap, rfl, hg, hx _ _ (by omega) k0, hx _ _ (by omega) k1, hx _ _ (by omega) k2, hx _ _ (by omega) k3, ha _ (List.getElem_mem hj)⟩

section

variable {w0 : World} {a : Option Addr} {len cap b : Nat} {w wr : World} {es : List Nd.E} {at_ g L cv x : Nat}

/-- One field of one node is set, not its list. -/
theorem any_set (h : NSt w0 a len cap b w wr (.slice (some ⟨g, 0, none⟩) L cv) es at_) (hL : es.length = L) (hx : x < es.length) (h11 : L ≤ 11) {f : Nat} (hf : f < 4) {u : Value} {t' : Tk} (ht : t'.attrs = es[x].t.attrs) (hc : Nd.c1 ⟨t', es[x].a, es[x].cap⟩ = (Nd.c1 es[x]).set f u) (hz : TkV 40 t') (r : Ending) (hr : r = .returned (.slice (some ⟨g, 0, none⟩) L cv)) :
    DrawnT w0 a len cap b w r (wr.setCell ⟨g, x * 4 + f, none⟩ u) := by
  have ho := h.row.own
  rw [hL] at ho
  obtain ⟨ho', hg'⟩ := ho.stored (x * 4 + f) u
  have hge := (ho.lt g rfl).1
  rw [cs_set hx hf hc] at ho'
  have hlen : (es.set x ⟨t', es[x].a, es[x].cap⟩).length = L := by rw [List.length_set]; exact hL
  refine ⟨some ⟨g, 0, none⟩, cv, (es.set x ⟨t', es[x].a, es[x].cap⟩).map (·.t), by rw [hr, List.length_map, hlen], own_tkRow ho' hlen (fun e he => ?_), by rw [List.length_map, hlen]; exact h11, fun t htt => ?_, h.c.cur.grown hg' (fun e => by have := Option.some.inj e; have := h.c.lt; omega) (fun k e => by have := Option.some.inj e; have := h.c.le; omega), g_later h.c.gr hg' hge, by rw [List.length_map, hlen]; exact (own_cap ho).1, (own_cap ho).2⟩
  · have key : ∀ e0 ∈ es, AtRow (wr.setCell ⟨g, x * 4 + f, none⟩ u) e0.a e0.t.attrs := fun e0 he0 j hj => by
      obtain ⟨g1, o1, e1, hl1, q1, q2⟩ := (h.row.ats e0 he0).1.atRow j hj
      have hne : ¬ g = g1 := fun e2 => (h.row.ats e0 he0).2 g1 o1 (by omega) e1 (by rw [e2]; rfl)
      exact ⟨g1, o1, e1, by simpa using hl1, (World.cell?_setCell_far _ _ _ _ hne).trans q1, (World.cell?_setCell_far _ _ _ _ hne).trans q2⟩
    rcases List.mem_or_eq_of_mem_set he with h' | h'
    · exact key e h'
    · subst h'
      show AtRow _ es[x].a t'.attrs
      rw [ht]
      exact key _ (List.getElem_mem hx)
  · obtain ⟨e, he, rfl⟩ := List.mem_map.1 htt
    rcases List.mem_or_eq_of_mem_set he with h' | h'
    · obtain ⟨q1, q2, q3, q4⟩ := h.sz e h'
      exact ⟨by omega, by omega, fun y hy => by have := q3 y hy; omega, by omega⟩
    · subst h'
      exact hz

/-- As it was drawn. -/
theorem any_same (h : NSt w0 a len cap b w wr (.slice (some ⟨g, 0, none⟩) L cv) es at_) (hL : es.length = L) (h11 : L ≤ 11) (r : Ending) (hr : r = .returned (.slice (some ⟨g, 0, none⟩) L cv)) : DrawnT w0 a len cap b w r wr := by
  have ho := h.row.own
  rw [hL] at ho
  obtain ⟨a', c', e1, ht⟩ := h.row.tkRow
  rw [hL] at e1
  cases e1
  refine ⟨_, _, es.map (·.t), by rw [hr, List.length_map, hL], ht, by rw [List.length_map, hL]; exact h11, fun t htt => ?_, h.c.cur, h.c.gr, by rw [List.length_map, hL]; exact (own_cap ho).1, (own_cap ho).2⟩
  obtain ⟨e, he, rfl⟩ := List.mem_map.1 htt
  obtain ⟨q1, q2, q3, q4⟩ := h.sz e he
  exact ⟨by omega, by omega, fun y hy => by have := q3 y hy; omega, by omega⟩

/-- Without the first. -/
theorem any_less {m : Nat} (h : NSt w0 a len cap b w wr (.slice (some ⟨g, 0, none⟩) (m + 1) cv) es at_) (hL : es.length = m + 1) (h11 : m + 1 ≤ 11) (c2 : Nat) (r : Ending) (hr : r = .returned (.slice (some ⟨g, 4, none⟩) m c2)) (hc2 : c2 = cv - 1) : DrawnT w0 a len cap b w r wr := by
  have ho := h.row.own
  rw [hL] at ho
  have hcap := own_cap ho
  obtain ⟨a', c', e1, ht⟩ := h.row.tkRow
  rw [hL] at e1
  cases e1
  have hl : ((es.map (·.t)).drop 1).length = m := by rw [List.length_drop, List.length_map, hL]; omega
  refine ⟨some ⟨g, 4, none⟩, c2, (es.map (·.t)).drop 1, by rw [hr, hl], fun j hj => ?_, by omega, fun t htt => ?_, h.c.cur, h.c.gr, by omega, by omega⟩
  · have hj2 : 1 + j < (es.map (·.t)).length := by rw [List.length_map, hL]; omega
    obtain ⟨b1, o1, aa, ca, e1, hb1, q0, q1, q2, q3, q4⟩ := ht (1 + j) hj2
    cases e1
    rw [List.getElem_drop]
    exact ⟨g, 4, aa, ca, rfl, hb1, by rw [show 4 + j * 4 = 0 + (1 + j) * 4 by omega]; exact q0, by rw [show 4 + j * 4 + 1 = 0 + (1 + j) * 4 + 1 by omega]; exact q1, by rw [show 4 + j * 4 + 2 = 0 + (1 + j) * 4 + 2 by omega]; exact q2, by rw [show 4 + j * 4 + 3 = 0 + (1 + j) * 4 + 3 by omega]; exact q3, q4⟩
  · obtain ⟨e, he, rfl⟩ := List.mem_map.1 (List.mem_of_mem_drop htt)
    obtain ⟨q1, q2, q3, q4⟩ := h.sz e he
    exact ⟨by omega, by omega, fun y hy => by have := q3 y hy; omega, by omega⟩

end

theorem own_atR {w : World} {B : Nat} {a : Option Addr} {c n : Nat} {l : List At} (h : w.ownsRow B 114 2 (.slice a n c) n (atC l)) (hl : l.length = n) : OwnAts w B a l := by
  rcases h.2 with ⟨_, h0⟩ | ⟨g, cp, cur, e, hg, hh, hn, hc, hs, ht⟩
  · exact fun hl => by omega
  · cases e
    refine fun _ => ⟨g, 0, cur, rfl, hg, hh, fun j hj => ?_⟩
    obtain ⟨g1, g2⟩ := atC_get l j hj
    rw [← ht, List.getElem?_take] at g1 g2
    refine ⟨?_, ?_⟩
    · rw [Nat.zero_add, ← Array.getElem?_toList]
      split at g1
      · exact g1
      · cases g1
    · rw [Nat.zero_add, ← Array.getElem?_toList]
      split at g2
      · exact g2
      · cases g2

theorem own_kind {w : World} {B n s : Nat} {v : Value} {xs : List Value} {E : TypeId} (h : w.ownsRow B E s v n xs) : ∀ k, v.ownBlock = some k → ∃ c fz, w.heap[k]? = some (.cells c E fz) := by
  intro k hk
  rcases h.2 with ⟨rfl, _⟩ | ⟨g, cp, cur, rfl, hg, hh, _⟩
  · cases hk
  · cases hk
    exact ⟨_, _, hh⟩

theorem g_own {w wr w1 : World} {b : Nat} {row : Option Nat} (h : w.grownBy wr (some b)) (k : wr.grownBy w1 row) (hg : ∀ i, row = some i → w.heap.size ≤ i) : w.grownBy w1 (some b) :=
  ⟨k.os.trans h.os, k.tape.trans h.tape, k.output.trans h.output, Nat.le_trans h.size k.size, fun i hi hr => (k.block i (Nat.lt_of_lt_of_le hi h.size) (fun e => by have := hg i e.symm; omega)).trans (h.block i hi hr)⟩

/-- The cells of one node, of a row that is owned. -/
theorem slot_own {w : World} {B g n cap x : Nat} {es : List Nd.E} (ho : w.ownsRow B 42 4 (.slice (some ⟨g, 0, none⟩) n cap) n (Nd.cs es)) (hn : es.length = n) (hx : x < es.length) :
    (w.cell? ⟨g, x * 4, none⟩ = some (.int .i64 es[x].t.kind) ∧ w.cell? ⟨g, x * 4 + 1, none⟩ = some (.string es[x].t.name) ∧ w.cell? ⟨g, x * 4 + 2, none⟩ = some (.slice es[x].a es[x].t.attrs.length es[x].cap) ∧ w.cell? ⟨g, x * 4 + 3, none⟩ = some (.string es[x].t.text)) ∧ ∀ j, w.frozen? ⟨g, j, none⟩ = false := by
  obtain ⟨k0, k1, k2, k3⟩ := Nd.cs_get es x hx
  exact ⟨⟨by rw [ho.cellAt _ (by omega)]; exact k0, by rw [ho.cellAt _ (by omega)]; exact k1, by rw [ho.cellAt _ (by omega)]; exact k2, by rw [ho.cellAt _ (by omega)]; exact k3⟩, fun j => ho.frozenAt j⟩

theorem any_nil {w0 : World} {a : Option Addr} {len cap b : Nat} {w wr : World} {v : Value} {es : List Nd.E} {at_ : Nat} (h : NSt w0 a len cap b w wr v es at_) (a2 : Option Addr) (c2 : Nat) (r : Ending) (hr : r = .returned (.slice a2 0 c2)) (hc2 : c2 ≤ maxLen) : DrawnT w0 a len cap b w r wr :=
  ⟨a2, c2, [], hr, fun j hj => absurd hj (Nat.not_lt_zero _), Nat.zero_le _, fun t ht => absurd ht List.not_mem_nil, h.c.cur, h.c.gr, Nat.zero_le _, hc2⟩

theorem two_oneV (t : ByteArray) : ∀ u ∈ [Value.string t, .string ⟨#[118]⟩], u.oneCell' = true := by
  intro u hu
  simp only [List.mem_cons, List.not_mem_nil, or_false] at hu
  rcases hu with rfl | rfl <;> rfl

section

variable {w0 : World} {a : Option Addr} {len cap b : Nat} {w wr : World} {es : List Nd.E} {at_ g L cv x : Nat}

theorem slot_of (h : NSt w0 a len cap b w wr (.slice (some ⟨g, 0, none⟩) L cv) es at_) (hL : es.length = L) (hx : x < es.length) :
    (wr.cell? ⟨g, x * 4, none⟩ = some (.int .i64 es[x].t.kind) ∧ wr.cell? ⟨g, x * 4 + 1, none⟩ = some (.string es[x].t.name) ∧ wr.cell? ⟨g, x * 4 + 2, none⟩ = some (.slice es[x].a es[x].t.attrs.length es[x].cap) ∧ wr.cell? ⟨g, x * 4 + 3, none⟩ = some (.string es[x].t.text)) ∧ ∀ j, wr.frozen? ⟨g, j, none⟩ = false := by
  have ho := h.row.own
  rw [hL] at ho
  exact slot_own ho hL hx

theorem slot_grown {w7 : World} (h : NSt w0 a len cap b w wr (.slice (some ⟨g, 0, none⟩) L cv) es at_) (hL : es.length = L) (hx : x < es.length) (hg : wr.grownBy w7 (Value.slice es[x].a es[x].t.attrs.length es[x].cap).ownBlock) :
    (w7.cell? ⟨g, x * 4, none⟩ = some (.int .i64 es[x].t.kind) ∧ w7.cell? ⟨g, x * 4 + 1, none⟩ = some (.string es[x].t.name) ∧ w7.cell? ⟨g, x * 4 + 2, none⟩ = some (.slice es[x].a es[x].t.attrs.length es[x].cap) ∧ w7.cell? ⟨g, x * 4 + 3, none⟩ = some (.string es[x].t.text)) ∧ ∀ j, w7.frozen? ⟨g, j, none⟩ = false := by
  have ho := own_grownR h.row.own hg (own_kind (h.own _ (List.getElem_mem hx))) (by decide)
  rw [hL] at ho
  exact slot_own ho hL hx

/-- One more attr at one node. -/
theorem any_app {w7 : World} (h : NSt w0 a len cap b w wr (.slice (some ⟨g, 0, none⟩) L cv) es at_) (hL : es.length = L) (hx : x < es.length) (h11 : L ≤ 11) {tN : ByteArray} (htN : tN.size ≤ 7) {v7 : Value} (ho : w7.ownsRow w.heap.size 114 2 v7 (es[x].t.attrs.length + 1) (atC es[x].t.attrs ++ [.string tN, .string ⟨#[118]⟩])) (hg : wr.grownBy w7 (Value.slice es[x].a es[x].t.attrs.length es[x].cap).ownBlock) :
    ∀ (a7 : Option Addr) (c7 : Nat), v7 = .slice a7 (es[x].t.attrs.length + 1) c7 → ∀ r : Ending, r = .returned (.slice (some ⟨g, 0, none⟩) L cv) → DrawnT w0 a len cap b w r (w7.setCell ⟨g, x * 4 + 2, none⟩ v7) := by
  rintro a7 c7 rfl r hr
  have hown := h.own _ (List.getElem_mem hx)
  have hrow := own_grownR h.row.own hg (own_kind hown) (by decide)
  rw [hL] at hrow
  obtain ⟨ho', hg'⟩ := hrow.stored (x * 4 + 2) (.slice a7 (es[x].t.attrs.length + 1) c7)
  obtain ⟨l', hl'⟩ : ∃ l' : List At, l' = es[x].t.attrs ++ [⟨tN, ⟨#[118]⟩⟩] := ⟨_, rfl⟩
  have hll : l'.length = es[x].t.attrs.length + 1 := by rw [hl', List.length_append]; rfl
  have hat : atC l' = atC es[x].t.attrs ++ [.string tN, .string ⟨#[118]⟩] := by rw [hl', atC_app]; rfl
  have hc : Nd.c1 ⟨⟨es[x].t.kind, es[x].t.name, l', es[x].t.text⟩, a7, c7⟩ = (Nd.c1 es[x]).set 2 (.slice a7 (es[x].t.attrs.length + 1) c7) := by
    rw [← hll]
    rfl
  rw [cs_set hx (by omega) hc] at ho'
  rw [← hat] at ho
  have hge := (hrow.lt g rfl).1
  have hlen : (es.set x ⟨⟨es[x].t.kind, es[x].t.name, l', es[x].t.text⟩, a7, c7⟩).length = L := by rw [List.length_set]; exact hL
  have hcur : Cur w0 a len cap b w7 := h.c.cur.grown hg (fun e => by have := (hown.lt b e.symm).1; have := h.c.lt; omega) (fun k e => by have := (hown.lt k e).1; have := h.c.le; omega)
  have hgr : w.grownBy w7 (some b) := g_own h.c.gr hg (fun i e => (hown.lt i e).1)
  obtain ⟨cn, fzn, hkn⟩ := own_kind hrow g rfl
  have key : ∀ (a1 : Option Addr) (l1 : List At), OwnAts w7 w.heap.size a1 l1 → AtRow (w7.setCell ⟨g, x * 4 + 2, none⟩ (.slice a7 (es[x].t.attrs.length + 1) c7)) a1 l1 := fun a1 l1 h1 j hj => by
    obtain ⟨g1, o1, cu, e1, hb1, hh1, hc1⟩ := h1 (by omega)
    obtain ⟨g2, o2, e2, hl2, q1, q2⟩ := h1.atRow j hj
    rw [e1] at e2
    cases e2
    have hne : ¬ g = g1 := fun e => by
      subst e
      rw [hkn] at hh1
      injection hh1 with hh1
      injection hh1 with _ h2 _
      exact absurd h2 (by decide)
    exact ⟨g1, o1, e1, by simpa using hl2, (World.cell?_setCell_far _ _ _ _ hne).trans q1, (World.cell?_setCell_far _ _ _ _ hne).trans q2⟩
  refine ⟨some ⟨g, 0, none⟩, cv, (es.set x ⟨⟨es[x].t.kind, es[x].t.name, l', es[x].t.text⟩, a7, c7⟩).map (·.t), by rw [hr, List.length_map, hlen], own_tkRow ho' hlen (fun e he => ?_), by rw [List.length_map, hlen]; exact h11, fun t htt => ?_, hcur.grown hg' (fun e => by have := Option.some.inj e; have := h.c.lt; omega) (fun k e => by have := Option.some.inj e; have := h.c.le; omega), g_later hgr hg' hge, by rw [List.length_map, hlen]; exact (own_cap hrow).1, (own_cap hrow).2⟩
  · obtain ⟨j, hj, rfl⟩ := List.mem_iff_getElem.1 he
    rw [List.length_set] at hj
    rw [List.getElem_set]
    by_cases hjx : x = j
    · rw [if_pos hjx]
      exact key _ _ (own_atR ho hll)
    · rw [if_neg hjx]
      have hne : ¬ (Value.slice es[j].a es[j].t.attrs.length es[j].cap).ownBlock = (Value.slice es[x].a es[x].t.attrs.length es[x].cap).ownBlock ∨ (Value.slice es[j].a es[j].t.attrs.length es[j].cap).ownBlock = none := by
        rcases hb : (Value.slice es[j].a es[j].t.attrs.length es[j].cap).ownBlock with _ | k
        · exact .inr rfl
        · refine .inl (fun e => ?_)
          rcases Nat.lt_or_gt_of_ne hjx with h' | h'
          · exact List.pairwise_iff_getElem.1 h.apo x j hx hj h' k e.symm hb
          · exact List.pairwise_iff_getElem.1 h.apo j x hj hx h' k hb e.symm
      have hj7 := (h.own _ (List.getElem_mem hj)).kept hg hne.symm
      exact key _ _ (own_atR hj7 rfl)
  · obtain ⟨e, he, rfl⟩ := List.mem_map.1 htt
    rcases List.mem_or_eq_of_mem_set he with h' | h'
    · obtain ⟨q1, q2, q3, q4⟩ := h.sz e h'
      exact ⟨by omega, by omega, fun y hy => by have := q3 y hy; omega, by omega⟩
    · subst h'
      obtain ⟨q1, q2, q3, q4⟩ := h.sz _ (List.getElem_mem hx)
      refine ⟨by show es[x].t.name.size ≤ 40; omega, by show l'.length ≤ 40; omega, fun y hy => ?_, by show vz es[x].t.text ≤ 40; omega⟩
      rw [hl'] at hy
      rcases List.mem_append.1 hy with h2 | h2
      · have := q3 y h2
        omega
      · rw [List.mem_singleton] at h2
        subst h2
        exact ⟨by show tN.size ≤ 40; omega, by show vz ⟨#[118]⟩ ≤ 40; decide⟩

end

set_option maxRecDepth 8000 in
set_option maxHeartbeats 8000000 in
theorem cDrawAny (w0 : World) (a : Option Addr) (len cap b : Nat) (w : World) (hlen : len ≤ 4096) (hcr : CodeRow w0 a len) (hC : Cur w0 a len cap b w) :
    Calls Tryz.prog 43 #[.pointer (some ⟨b, 0, none⟩)] w (DrawnT w0 a len cap b w) := by
  have HR := hid hcr
  have HC := hid hC
  obtain ⟨i0, hi, hz0, hz1, hz2⟩ := info_parts infoAtW
  have HI := hid (And.intro hi (And.intro hz0 (And.intro hz1 hz2)))
  clear hcr hC hi hz0 hz1 hz2
  go_enter Tryz.func43, Tryz.ntmps43
  go_wp2_with fail
  refine (cDraw8 w0 a len cap b _ hlen HR.out HC.out).mono ?_
  rintro e w1 ⟨a1, cv, es, at_, rfl, h1, h11, hN⟩
  obtain ⟨g, c2, e1, -, -, hcv, -⟩ := own_pos hN.row.own (by omega)
  cases e1
  obtain ⟨m, hm⟩ : ∃ m, es.length = m + 1 := ⟨es.length - 1, by omega⟩
  rw [hm] at hN h11 hcv ⊢
  have HCV := hid hcv
  have HM := hid hm
  have HN1 := hid hN
  clear hm hN h1 hcv
  go_wp2_with fail
  refine (cOnce 8 w0 a len cap b _ hlen HR.out HN1.out.c.cur (by omega) (by omega)).mono ?_
  rintro e w2 ⟨B2, rfl, hC2, hG2⟩
  have HN2 := hid (HN1.out.draw hC2 hG2)
  clear hC2 hG2 HN1
  cases B2
  · go_wp2_with fail
    go_ret
    exact any_same HN2.out HM.out h11 _ rfl
  have CB := hid (cBelow (m + 1) w0 a len cap b w2 hlen HR.out HN2.out.c.cur (by omega) (by omega))
  go_wp2_with fail
  refine CB.out.mono ?_
  rintro e w3 ⟨x, rfl, hx3, hC3, hG3⟩
  have HN3 := hid (HN2.out.draw hC3 hG3)
  clear hC3 hG3 HN2 CB
  have hxi : (x : Int) < ((m + 1 : Nat) : Int) := by omega
  have HX := hid (show x < es.length by rw [HM.out]; exact hx3)
  go_wp2_with fail
  refine (cBelow 5 w0 a len cap b _ hlen HR.out HN3.out.c.cur (by omega) (by omega)).mono ?_
  rintro e w4 ⟨y, rfl, hy4, hC4, hG4⟩
  have HN4 := hid (HN3.out.draw hC4 hG4)
  clear hC4 hG4 HN3
  rcases (show y = 0 ∨ y = 1 ∨ y = 2 ∨ y = 3 ∨ y = 4 by omega) with rfl | rfl | rfl | rfl | rfl
  · go_wp2_with fail
    refine (cFromA (-2) 8 5 (by omega) (by omega) (by omega) (by omega) (by omega) w0 a len cap b _ hlen HR.out HN4.out.c.cur).mono ?_
    rintro e w5 ⟨z, rfl, hz1, hz2, hC5, hG5⟩
    have HN5 := hid (HN4.out.draw hC5 hG5)
    obtain ⟨⟨s0, s1, s2, s3⟩, sf⟩ := slot_of HN5.out HM.out HX.out
    have sf0 := sf (x * 4)
    clear hC5 hG5 s1 s2 s3 sf
    go_wp2_with fail
    go_ret
    exact any_set HN5.out HM.out HX.out h11 (f := 0) (by omega) (u := .int .i64 z) (t' := ⟨z, (es[x]'HX.out).t.name, (es[x]'HX.out).t.attrs, (es[x]'HX.out).t.text⟩) rfl rfl (by
      obtain ⟨q1, q2, q3, q4⟩ := HN5.out.sz _ (List.getElem_mem HX.out)
      exact ⟨by show (es[x]'HX.out).t.name.size ≤ 40; omega, by show (es[x]'HX.out).t.attrs.length ≤ 40; omega, fun y hy => by have := q3 y hy; omega, by show vz (es[x]'HX.out).t.text ≤ 40; omega⟩) _ rfl
  · go_wp2_with fail
    refine (cName w0 a len cap b _ hlen HR.out HN4.out.c.cur).mono ?_
    rintro e w5 ⟨z, rfl, hz1, hC5, hG5⟩
    have HN5 := hid (HN4.out.draw hC5 hG5)
    obtain ⟨⟨s0, s1, s2, s3⟩, sf⟩ := slot_of HN5.out HM.out HX.out
    have sf0 := sf (x * 4 + 1)
    clear hC5 hG5 s0 s2 s3 sf
    go_wp2_with fail
    go_ret
    exact any_set HN5.out HM.out HX.out h11 (f := 1) (by omega) (u := .string z) (t' := ⟨(es[x]'HX.out).t.kind, z, (es[x]'HX.out).t.attrs, (es[x]'HX.out).t.text⟩) rfl rfl (by
      obtain ⟨q1, q2, q3, q4⟩ := HN5.out.sz _ (List.getElem_mem HX.out)
      exact ⟨by show z.size ≤ 40; omega, by show (es[x]'HX.out).t.attrs.length ≤ 40; omega, fun y hy => by have := q3 y hy; omega, by show vz (es[x]'HX.out).t.text ≤ 40; omega⟩) _ rfl
  · go_wp2_with fail
    refine (cTextV ⟨#[97, 98]⟩ 3 w0 a len cap b _ (by omega) (by omega) (by decide) (by decide) (by decide) hlen HR.out HN4.out.c.cur).mono ?_
    rintro e w5 ⟨z, rfl, hz1, hC5, hG5⟩
    have HN5 := hid (HN4.out.draw hC5 hG5)
    obtain ⟨⟨s0, s1, s2, s3⟩, sf⟩ := slot_of HN5.out HM.out HX.out
    have sf0 := sf (x * 4 + 3)
    clear hC5 hG5 s0 s1 s2 sf
    go_wp2_with fail
    go_ret
    exact any_set HN5.out HM.out HX.out h11 (f := 3) (by omega) (u := .string z) (t' := ⟨(es[x]'HX.out).t.kind, (es[x]'HX.out).t.name, (es[x]'HX.out).t.attrs, z⟩) rfl rfl (by
      obtain ⟨q1, q2, q3, q4⟩ := HN5.out.sz _ (List.getElem_mem HX.out)
      exact ⟨by show (es[x]'HX.out).t.name.size ≤ 40; omega, by show (es[x]'HX.out).t.attrs.length ≤ 40; omega, fun y hy => by have := q3 y hy; omega, by show vz z ≤ 40; omega⟩) _ rfl
  · go_upto_region 12 with fail
    have HAL := hid (HN4.out.sz _ (List.getElem_mem HX.out)).2.1
    refine wp_region_held_drew (S := fun _ => True) (by kernel_rfl) trivial (fun _ => ?_)
    have HS := hid (show NSt w0 a len cap b w w4.drew (.slice (some ⟨g, 0, none⟩) (m + 1) cv) es at_ from HN4.out.drewN 1)
    generalize w4.drew = W at *
    refine wpAnyH_take (i := 0) (v := ?_) rfl (by kernel_rfl) (by kernel_rfl) (by kernel_rfl) (fun _ _ _ h => h) (Or.inl ⟨by rfl, ?_⟩) trivial ?_
    rotate_left
    · intro w hSw
      go_simp
      try (with_reducible rfl)
    try simp only [Act.put, List.setIfInBounds_toArray, List.set_cons_zero, List.set_cons_succ]
    refine wpAnyH_take (i := 1) (v := ?_) rfl (by kernel_rfl) (by kernel_rfl) (by kernel_rfl) (fun _ _ _ h => h) (Or.inl ⟨by rfl, ?_⟩) trivial ?_
    rotate_left
    · intro w hSw
      go_simp
      try (with_reducible rfl)
    try simp only [Act.put, List.setIfInBounds_toArray, List.set_cons_zero, List.set_cons_succ]
    refine wpAnyH_take (i := 5) (v := ?_) rfl (by kernel_rfl) (by kernel_rfl) (by kernel_rfl) (fun _ _ _ h => h) (Or.inl ⟨by rfl, ?_⟩) trivial ?_
    rotate_left
    · intro w hSw
      go_simp
      try (with_reducible rfl)
    try simp only [Act.put, List.setIfInBounds_toArray, List.set_cons_zero, List.set_cons_succ]
    refine wpAnyH_take (i := 2) (v := ?_) rfl (by kernel_rfl) (by kernel_rfl) (by kernel_rfl) (fun _ _ _ h => h) (Or.inl ⟨by rfl, ?_⟩) trivial ?_
    rotate_left
    · intro w hSw
      go_simp
      try (with_reducible rfl)
    try simp only [Act.put, List.setIfInBounds_toArray, List.set_cons_zero, List.set_cons_succ]
    refine wpAnyH_take (i := 3) (v := ?_) rfl (by kernel_rfl) (by kernel_rfl) (by kernel_rfl) (fun _ _ _ h => h) (Or.inl ⟨by rfl, ?_⟩) trivial ?_
    rotate_left
    · intro w hSw
      go_simp
      try (with_reducible rfl)
    try simp only [Act.put, List.setIfInBounds_toArray, List.set_cons_zero, List.set_cons_succ]
    refine wpAnyH_ready (rs := [4, 6]) (by kernel_rfl) (by simp) (AllReadyH.cons rfl (fun K hK => ?_) (AllReadyH.cons rfl (fun K hK => ?_) AllReadyH.nil))
    · have cF := (slot_of HS.out HM.out HX.out).1.2.2.1
      go_simp
      refine hK.out _ _ trivial (fun _ => ?_)
      clear hK K
      try simp only [Act.put, List.setIfInBounds_toArray, List.set_cons_zero, List.set_cons_succ]
      clear cF
      refine wpAnyH_ready (rs := [6]) (by kernel_rfl) (by simp) (AllReadyH.cons rfl (fun K hK => ?_) AllReadyH.nil)
      · go_simp
        refine (cName w0 a len cap b _ hlen HR.out HS.out.c.cur).mono ?_
        rintro e W2 ⟨tN, rfl, htN, hC, hG⟩
        replace HS := hid (HS.out.draw hC hG)
        clear hC hG
        go_wp2_with fail
        refine hK.out _ _ trivial (fun _ => ?_)
        clear hK K
        try simp only [Act.put, List.setIfInBounds_toArray, List.set_cons_zero, List.set_cons_succ]
        generalize W2 = W at *
        refine wpAnyH_take (i := 7) (v := ?_) rfl (by kernel_rfl) (by kernel_rfl) (by kernel_rfl) (fun _ _ _ h => h) (Or.inl ⟨by rfl, ?_⟩) trivial ?_
        rotate_left
        · intro w hSw
          go_simp
          try (with_reducible rfl)
        try simp only [Act.put, List.setIfInBounds_toArray, List.set_cons_zero, List.set_cons_succ]
        refine wpAnyH_ready (rs := [8]) (by kernel_rfl) (by simp) (AllReadyH.cons rfl (fun K hK => ?_) AllReadyH.nil)
        · have HNE := hid (two_cells W (.string tN) (.string ⟨#[118]⟩) 114)
          have HZW := hid (show w.heap.size ≤ (W.alloc (.cells #[.string tN, .string ⟨#[118]⟩] 114)).heap.size from (HS.out.alloc (.cells #[.string tN, .string ⟨#[118]⟩] 114)).c.gr.size)
          go_simp
          refine hK.out _ _ trivial (fun _ => ?_)
          clear hK K
          try simp only [Act.put, List.setIfInBounds_toArray, List.set_cons_zero, List.set_cons_succ]
          replace HS := hid (HS.out.alloc (.cells #[.string tN, .string ⟨#[118]⟩] 114))
          generalize W.heap.size = gn at *
          generalize W.alloc (.cells #[.string tN, .string ⟨#[118]⟩] 114) = W at *
          refine wpAnyH_ready (rs := [9]) (by kernel_rfl) (by simp) (AllReadyH.cons rfl (fun K hK => ?_) AllReadyH.nil)
          · refine step_app_at rfl (.tmp 44) (.tmp 48) 40 rfl w.heap.size 114 i0 _ 2 32 Tryz.underlying40 HI.out.1 HI.out.2.1 HI.out.2.2.1 HI.out.2.2.2 rfl (by decide) (.slice (es[x]'HX.out).a (es[x]'HX.out).t.attrs.length (es[x]'HX.out).cap) (es[x]'HX.out).t.attrs.length (atC (es[x]'HX.out).t.attrs) (by simp [Act.eval, Act.put]) (HS.out.own _ (List.getElem_mem HX.out)) ⟨gn, 0, none⟩ 1 1 [.string tN, .string ⟨#[118]⟩] (by simp [Act.eval, Act.put]) rfl HNE.out (two_oneV tN) (by have := HAL.out; unfold maxLen; omega) (by have := HAL.out; omega) HZW.out ?_
            intro v7 w7 hown7 hgrow7 _
            have H7 := hid (any_app HS.out HM.out HX.out h11 htN hown7 hgrow7)
            obtain ⟨a7, c7, hv7⟩ := own_len hown7
            obtain ⟨⟨s0, s1, s2, s3⟩, sf⟩ := slot_grown HS.out HM.out HX.out hgrow7
            have sf2 := sf (x * 4 + 2)
            subst hv7
            clear hown7 hgrow7 sf s0 s1 s3
            refine hK.out _ _ trivial (fun _ => ?_)
            clear hK K
            try simp only [Act.put, List.setIfInBounds_toArray, List.set_cons_zero, List.set_cons_succ]
            refine wpAnyH_take (i := 10) (v := ?_) rfl (by kernel_rfl) (by kernel_rfl) (by kernel_rfl) (fun _ _ _ h => h) (Or.inl ⟨by rfl, ?_⟩) trivial ?_
            rotate_left
            · intro w hSw
              go_simp
              try (with_reducible rfl)
            try simp only [Act.put, List.setIfInBounds_toArray, List.set_cons_zero, List.set_cons_succ]
            refine wpAnyH_take (i := 11) (v := ?_) rfl (by kernel_rfl) (by kernel_rfl) (by kernel_rfl) (fun _ _ _ h => h) (Or.inl ⟨by rfl, ?_⟩) trivial ?_
            rotate_left
            · intro w hSw
              go_simp
              try (with_reducible rfl)
            try simp only [Act.put, List.setIfInBounds_toArray, List.set_cons_zero, List.set_cons_succ]
            refine wpAnyH_ready (rs := [12]) (by kernel_rfl) (by simp) (AllReadyH.cons rfl (fun K hK => ?_) AllReadyH.nil)
            · go_simp
              refine hK.out _ _ trivial (fun _ => ?_)
              clear hK K
              try simp only [Act.put, List.setIfInBounds_toArray, List.set_cons_zero, List.set_cons_succ]
              refine wpAnyH_done (by kernel_rfl) ?_ _
              go_wp2_with fail
              go_ret
              exact H7.out _ _ rfl _ rfl
    · go_simp
      refine (cName w0 a len cap b _ hlen HR.out HS.out.c.cur).mono ?_
      rintro e W2 ⟨tN, rfl, htN, hC, hG⟩
      replace HS := hid (HS.out.draw hC hG)
      clear hC hG
      go_wp2_with fail
      refine hK.out _ _ trivial (fun _ => ?_)
      clear hK K
      try simp only [Act.put, List.setIfInBounds_toArray, List.set_cons_zero, List.set_cons_succ]
      generalize W2 = W at *
      refine wpAnyH_take (i := 7) (v := ?_) rfl (by kernel_rfl) (by kernel_rfl) (by kernel_rfl) (fun _ _ _ h => h) (Or.inl ⟨by rfl, ?_⟩) trivial ?_
      rotate_left
      · intro w hSw
        go_simp
        try (with_reducible rfl)
      try simp only [Act.put, List.setIfInBounds_toArray, List.set_cons_zero, List.set_cons_succ]
      refine wpAnyH_ready (rs := [4, 8]) (by kernel_rfl) (by simp) (AllReadyH.cons rfl (fun K hK => ?_) (AllReadyH.cons rfl (fun K hK => ?_) AllReadyH.nil))
      · have cF := (slot_of HS.out HM.out HX.out).1.2.2.1
        go_simp
        refine hK.out _ _ trivial (fun _ => ?_)
        clear hK K
        try simp only [Act.put, List.setIfInBounds_toArray, List.set_cons_zero, List.set_cons_succ]
        clear cF
        refine wpAnyH_ready (rs := [8]) (by kernel_rfl) (by simp) (AllReadyH.cons rfl (fun K hK => ?_) AllReadyH.nil)
        · have HNE := hid (two_cells W (.string tN) (.string ⟨#[118]⟩) 114)
          have HZW := hid (show w.heap.size ≤ (W.alloc (.cells #[.string tN, .string ⟨#[118]⟩] 114)).heap.size from (HS.out.alloc (.cells #[.string tN, .string ⟨#[118]⟩] 114)).c.gr.size)
          go_simp
          refine hK.out _ _ trivial (fun _ => ?_)
          clear hK K
          try simp only [Act.put, List.setIfInBounds_toArray, List.set_cons_zero, List.set_cons_succ]
          replace HS := hid (HS.out.alloc (.cells #[.string tN, .string ⟨#[118]⟩] 114))
          generalize W.heap.size = gn at *
          generalize W.alloc (.cells #[.string tN, .string ⟨#[118]⟩] 114) = W at *
          refine wpAnyH_ready (rs := [9]) (by kernel_rfl) (by simp) (AllReadyH.cons rfl (fun K hK => ?_) AllReadyH.nil)
          · refine step_app_at rfl (.tmp 44) (.tmp 48) 40 rfl w.heap.size 114 i0 _ 2 32 Tryz.underlying40 HI.out.1 HI.out.2.1 HI.out.2.2.1 HI.out.2.2.2 rfl (by decide) (.slice (es[x]'HX.out).a (es[x]'HX.out).t.attrs.length (es[x]'HX.out).cap) (es[x]'HX.out).t.attrs.length (atC (es[x]'HX.out).t.attrs) (by simp [Act.eval, Act.put]) (HS.out.own _ (List.getElem_mem HX.out)) ⟨gn, 0, none⟩ 1 1 [.string tN, .string ⟨#[118]⟩] (by simp [Act.eval, Act.put]) rfl HNE.out (two_oneV tN) (by have := HAL.out; unfold maxLen; omega) (by have := HAL.out; omega) HZW.out ?_
            intro v7 w7 hown7 hgrow7 _
            have H7 := hid (any_app HS.out HM.out HX.out h11 htN hown7 hgrow7)
            obtain ⟨a7, c7, hv7⟩ := own_len hown7
            obtain ⟨⟨s0, s1, s2, s3⟩, sf⟩ := slot_grown HS.out HM.out HX.out hgrow7
            have sf2 := sf (x * 4 + 2)
            subst hv7
            clear hown7 hgrow7 sf s0 s1 s3
            refine hK.out _ _ trivial (fun _ => ?_)
            clear hK K
            try simp only [Act.put, List.setIfInBounds_toArray, List.set_cons_zero, List.set_cons_succ]
            refine wpAnyH_take (i := 10) (v := ?_) rfl (by kernel_rfl) (by kernel_rfl) (by kernel_rfl) (fun _ _ _ h => h) (Or.inl ⟨by rfl, ?_⟩) trivial ?_
            rotate_left
            · intro w hSw
              go_simp
              try (with_reducible rfl)
            try simp only [Act.put, List.setIfInBounds_toArray, List.set_cons_zero, List.set_cons_succ]
            refine wpAnyH_take (i := 11) (v := ?_) rfl (by kernel_rfl) (by kernel_rfl) (by kernel_rfl) (fun _ _ _ h => h) (Or.inl ⟨by rfl, ?_⟩) trivial ?_
            rotate_left
            · intro w hSw
              go_simp
              try (with_reducible rfl)
            try simp only [Act.put, List.setIfInBounds_toArray, List.set_cons_zero, List.set_cons_succ]
            refine wpAnyH_ready (rs := [12]) (by kernel_rfl) (by simp) (AllReadyH.cons rfl (fun K hK => ?_) AllReadyH.nil)
            · go_simp
              refine hK.out _ _ trivial (fun _ => ?_)
              clear hK K
              try simp only [Act.put, List.setIfInBounds_toArray, List.set_cons_zero, List.set_cons_succ]
              refine wpAnyH_done (by kernel_rfl) ?_ _
              go_wp2_with fail
              go_ret
              exact H7.out _ _ rfl _ rfl
      · have HNE := hid (two_cells W (.string tN) (.string ⟨#[118]⟩) 114)
        have HZW := hid (show w.heap.size ≤ (W.alloc (.cells #[.string tN, .string ⟨#[118]⟩] 114)).heap.size from (HS.out.alloc (.cells #[.string tN, .string ⟨#[118]⟩] 114)).c.gr.size)
        go_simp
        refine hK.out _ _ trivial (fun _ => ?_)
        clear hK K
        try simp only [Act.put, List.setIfInBounds_toArray, List.set_cons_zero, List.set_cons_succ]
        replace HS := hid (HS.out.alloc (.cells #[.string tN, .string ⟨#[118]⟩] 114))
        generalize W.heap.size = gn at *
        generalize W.alloc (.cells #[.string tN, .string ⟨#[118]⟩] 114) = W at *
        refine wpAnyH_ready (rs := [4]) (by kernel_rfl) (by simp) (AllReadyH.cons rfl (fun K hK => ?_) AllReadyH.nil)
        · have cF := (slot_of HS.out HM.out HX.out).1.2.2.1
          go_simp
          refine hK.out _ _ trivial (fun _ => ?_)
          clear hK K
          try simp only [Act.put, List.setIfInBounds_toArray, List.set_cons_zero, List.set_cons_succ]
          clear cF
          refine wpAnyH_ready (rs := [9]) (by kernel_rfl) (by simp) (AllReadyH.cons rfl (fun K hK => ?_) AllReadyH.nil)
          · refine step_app_at rfl (.tmp 44) (.tmp 48) 40 rfl w.heap.size 114 i0 _ 2 32 Tryz.underlying40 HI.out.1 HI.out.2.1 HI.out.2.2.1 HI.out.2.2.2 rfl (by decide) (.slice (es[x]'HX.out).a (es[x]'HX.out).t.attrs.length (es[x]'HX.out).cap) (es[x]'HX.out).t.attrs.length (atC (es[x]'HX.out).t.attrs) (by simp [Act.eval, Act.put]) (HS.out.own _ (List.getElem_mem HX.out)) ⟨gn, 0, none⟩ 1 1 [.string tN, .string ⟨#[118]⟩] (by simp [Act.eval, Act.put]) rfl HNE.out (two_oneV tN) (by have := HAL.out; unfold maxLen; omega) (by have := HAL.out; omega) HZW.out ?_
            intro v7 w7 hown7 hgrow7 _
            have H7 := hid (any_app HS.out HM.out HX.out h11 htN hown7 hgrow7)
            obtain ⟨a7, c7, hv7⟩ := own_len hown7
            obtain ⟨⟨s0, s1, s2, s3⟩, sf⟩ := slot_grown HS.out HM.out HX.out hgrow7
            have sf2 := sf (x * 4 + 2)
            subst hv7
            clear hown7 hgrow7 sf s0 s1 s3
            refine hK.out _ _ trivial (fun _ => ?_)
            clear hK K
            try simp only [Act.put, List.setIfInBounds_toArray, List.set_cons_zero, List.set_cons_succ]
            refine wpAnyH_take (i := 10) (v := ?_) rfl (by kernel_rfl) (by kernel_rfl) (by kernel_rfl) (fun _ _ _ h => h) (Or.inl ⟨by rfl, ?_⟩) trivial ?_
            rotate_left
            · intro w hSw
              go_simp
              try (with_reducible rfl)
            try simp only [Act.put, List.setIfInBounds_toArray, List.set_cons_zero, List.set_cons_succ]
            refine wpAnyH_take (i := 11) (v := ?_) rfl (by kernel_rfl) (by kernel_rfl) (by kernel_rfl) (fun _ _ _ h => h) (Or.inl ⟨by rfl, ?_⟩) trivial ?_
            rotate_left
            · intro w hSw
              go_simp
              try (with_reducible rfl)
            try simp only [Act.put, List.setIfInBounds_toArray, List.set_cons_zero, List.set_cons_succ]
            refine wpAnyH_ready (rs := [12]) (by kernel_rfl) (by simp) (AllReadyH.cons rfl (fun K hK => ?_) AllReadyH.nil)
            · go_simp
              refine hK.out _ _ trivial (fun _ => ?_)
              clear hK K
              try simp only [Act.put, List.setIfInBounds_toArray, List.set_cons_zero, List.set_cons_succ]
              refine wpAnyH_done (by kernel_rfl) ?_ _
              go_wp2_with fail
              go_ret
              exact H7.out _ _ rfl _ rfl
  · by_cases hc1 : cv = 1
    · obtain rfl : m = 0 := by have := HCV.out; omega
      subst hc1
      go_wp2_with fail
      go_ret
      exact any_nil HN4.out _ _ _ rfl (by unfold maxLen; omega)
    · go_wp2_with fail
      go_ret
      exact any_less HN4.out HM.out h11 _ _ rfl rfl

end Go.Proofs.YteninofjeidljaaGreat

namespace Go.Proofs.YteninofjeidljaaGreat

open Go.RowKit

set_option linter.unusedVariables false

set_option linter.unusedSimpArgs false

theorem conv7 (W : World) (g : Nat) (h : W.heap[g]? = some (.cells #[.int .u8 7] 5)) : (convert 22 9 (.slice (some ⟨g, 0, none⟩) 1 1)).run Tryz.prog W = .ok (.string (strOfNums [7])) W :=
  run_convert_bytes_arg (P := Tryz.prog) W 22 5 Tryz.underlying22 Tryz.underlying5 g 0 1 1 [7] rfl (fun i hi => by
    have : i = 0 := by omega
    subst this
    rw [Lib.cell_of_heap (show W.heap[g]? = some (.cells #[.int .u8 7] 5 (0, 0)) from h)]
    rfl) 9 Tryz.underlying9

theorem conv0 (W : World) (g : Nat) (h : W.heap[g]? = some (.cells #[.int .u8 0, .int .u8 0, .int .u8 0] 5)) : (convert 22 9 (.slice (some ⟨g, 0, none⟩) 3 3)).run Tryz.prog W = .ok (.string (strOfNums [0, 0, 0])) W :=
  run_convert_bytes_arg (P := Tryz.prog) W 22 5 Tryz.underlying22 Tryz.underlying5 g 0 3 3 [0, 0, 0] rfl (fun i hi => by
    rw [Lib.cell_of_heap (show W.heap[g]? = some (.cells #[.int .u8 0, .int .u8 0, .int .u8 0] 5 (0, 0)) from h)]
    rcases (show i = 0 ∨ i = 1 ∨ i = 2 from by omega) with rfl | rfl | rfl <;> rfl) 9 Tryz.underlying9

theorem mk3 (W : World) : (Instr.makeSlice 22 (.int .i64 3) (.int .i64 3)).run Tryz.prog W = .ok (.slice (some ⟨W.heap.size, 0, none⟩) 3 3) (W.alloc (.cells #[.int .u8 0, .int .u8 0, .int .u8 0] 5)) := by
  kernel_rfl

theorem seven_sz : (strOfNums [7]).size ≤ 3 := by decide

theorem three_sz : (strOfNums [0, 0, 0]).size ≤ 3 := by decide

theorem tabS_at (w : World) (B x : Nat) (S7 S0 : ByteArray) (hx : x < 3) (h7 : S7.size ≤ 3) (h0 : S0.size ≤ 3) (h : w.heap[B]? = some (.cells #[.string ⟨#[]⟩, .string S7, .string S0] 9)) : ∃ t : ByteArray, w.cell? ⟨B, x, none⟩ = some (.string t) ∧ t.size ≤ 3 := by
  rw [Lib.cell_of_heap (show w.heap[B]? = some (.cells #[.string ⟨#[]⟩, .string S7, .string S0] 9 (0, 0)) from h)]
  rcases (show x = 0 ∨ x = 1 ∨ x = 2 from by omega) with rfl | rfl | rfl
  · exact ⟨_, rfl, by decide⟩
  · exact ⟨_, rfl, h7⟩
  · exact ⟨_, rfl, h0⟩

/-- A token in a box, while it is bent. -/
structure AnSt (w0 : World) (a : Option Addr) (len cap b : Nat) (w : World) (bx : Nat) (k : Int) (nm : ByteArray) (a' : Option Addr) (c' : Nat) (l : List At) (tx : ByteArray) (W : World) : Prop where
  dst : DSt w0 a len cap b w W (.slice a' l.length c') l
  box : W.heap[bx]? = some (.cells #[.int .i64 k, .string nm, .slice a' l.length c', .string tx] 49 (0, 0))
  res : W.heap[w.heap.size]? = some (.cells #[.int .i64 0, .string ⟨#[]⟩, .slice none 0 0, .string ⟨#[]⟩] 49 (0, 0))
  hi : w.heap.size < bx
  ne : ¬ (Value.slice a' l.length c').ownBlock = some bx
  ner : ¬ (Value.slice a' l.length c').ownBlock = some w.heap.size

section

variable {w0 : World} {a : Option Addr} {len cap b : Nat} {w : World} {bx : Nat} {k : Int} {nm : ByteArray} {a' : Option Addr} {c' : Nat} {l : List At} {tx : ByteArray} {W W1 : World}

theorem AnSt.alloc (h : AnSt w0 a len cap b w bx k nm a' c' l tx W) (o : Obj) : AnSt w0 a len cap b w bx k nm a' c' l tx (W.alloc o) :=
  ⟨h.dst.alloc o, blk_alloc h.box o, blk_alloc h.res o, h.hi, h.ne, h.ner⟩

theorem AnSt.draw (h : AnSt w0 a len cap b w bx k nm a' c' l tx W) (hC : Cur w0 a len cap b W1) (g : W.grownBy W1 (some b)) : AnSt w0 a len cap b w bx k nm a' c' l tx W1 :=
  ⟨h.dst.draw hC g, (g.block _ (lt_of_heap h.box) (fun e => by have := Option.some.inj e; have := h.dst.lt; have := h.hi; omega)).trans h.box, (g.block _ (lt_of_heap h.res) (fun e => by have := Option.some.inj e; have := h.dst.lt; omega)).trans h.res, h.hi, h.ne, h.ner⟩

theorem AnSt.drewN (h : AnSt w0 a len cap b w bx k nm a' c' l tx W) (n : Nat) : AnSt w0 a len cap b w bx k nm a' c' l tx (W.drewN n) :=
  ⟨h.dst.drewN n, h.box, h.res, h.hi, h.ne, h.ner⟩

theorem AnSt.kind (h : AnSt w0 a len cap b w bx k nm a' c' l tx W) (k2 : Int) : AnSt w0 a len cap b w bx k2 nm a' c' l tx (W.setCell ⟨bx, 0, none⟩ (.int .i64 k2)) :=
  ⟨h.dst.set (Nat.le_of_lt h.hi) h.ne 0 _, heap_setCell_same W bx 0 _ _ _ h.box, (heap_setCell_other W ⟨bx, 0, none⟩ w.heap.size _ (by show ¬ w.heap.size = bx; have := h.hi; omega)).trans h.res, h.hi, h.ne, h.ner⟩

theorem AnSt.name (h : AnSt w0 a len cap b w bx k nm a' c' l tx W) (n2 : ByteArray) : AnSt w0 a len cap b w bx k n2 a' c' l tx (W.setCell ⟨bx, 1, none⟩ (.string n2)) :=
  ⟨h.dst.set (Nat.le_of_lt h.hi) h.ne 1 _, heap_setCell_same W bx 1 _ _ _ h.box, (heap_setCell_other W ⟨bx, 1, none⟩ w.heap.size _ (by show ¬ w.heap.size = bx; have := h.hi; omega)).trans h.res, h.hi, h.ne, h.ner⟩

theorem AnSt.text (h : AnSt w0 a len cap b w bx k nm a' c' l tx W) (t2 : ByteArray) : AnSt w0 a len cap b w bx k nm a' c' l t2 (W.setCell ⟨bx, 3, none⟩ (.string t2)) :=
  ⟨h.dst.set (Nat.le_of_lt h.hi) h.ne 3 _, heap_setCell_same W bx 3 _ _ _ h.box, (heap_setCell_other W ⟨bx, 3, none⟩ w.heap.size _ (by show ¬ w.heap.size = bx; have := h.hi; omega)).trans h.res, h.hi, h.ne, h.ner⟩

end

theorem AnSt.double {w0 : World} {a : Option Addr} {len cap b : Nat} {w : World} {bx : Nat} {k : Int} {nm : ByteArray} {a' : Option Addr} {c' : Nat} {l : List At} {tx : ByteArray} {W w7 : World} (h : AnSt w0 a len cap b w bx k nm a' c' l tx W) {a7 : Option Addr} {c7 : Nat}
    (ho : w7.ownsRow w.heap.size 114 2 (.slice a7 (l.length + l.length) c7) (l.length + l.length) (atC l ++ atC l)) (g : W.grownBy w7 (Value.slice a' l.length c').ownBlock) :
    w7.heap[bx]? = some (.cells #[.int .i64 k, .string nm, .slice a' l.length c', .string tx] 49 (0, 0)) ∧ AnSt w0 a len cap b w bx k nm a7 c7 (l ++ l) tx (w7.setCell ⟨bx, 2, none⟩ (.slice a7 (l.length + l.length) c7)) := by
  have hb7 := (g.block bx (lt_of_heap h.box) (fun e => h.ne e.symm)).trans h.box
  have hr7 := (g.block w.heap.size (lt_of_heap h.res) (fun e => h.ner e.symm)).trans h.res
  have hl : (l ++ l).length = l.length + l.length := List.length_append
  have kinds : ∀ q o, w7.heap[q]? = some (.cells o 49 (0, 0)) → ¬ (Value.slice a7 (l.length + l.length) c7).ownBlock = some q := fun q o hq e => by
    rcases ho.2 with ⟨h1, _⟩ | ⟨g1, cp, cur, h1, h2, h3, _⟩
    · rw [h1] at e; cases e
    · rw [h1] at e
      have : g1 = q := by simpa [Value.ownBlock] using e
      subst this
      rw [hq] at h3
      injection h3 with h3
      injection h3 with _ h3
      exact absurd h3 (by decide)
  have n1 := kinds _ _ hb7
  have n2 := kinds _ _ hr7
  have hD := h.dst.join h.dst.sz ho g
  refine ⟨hb7, by rw [hl]; exact hD.set (Nat.le_of_lt h.hi) n1 2 _, ?_, (heap_setCell_other w7 ⟨bx, 2, none⟩ w.heap.size _ (by show ¬ w.heap.size = bx; have := h.hi; omega)).trans hr7, h.hi, by rw [hl]; exact n1, by rw [hl]; exact n2⟩
  rw [hl]
  exact heap_setCell_same w7 bx 2 _ _ _ hb7

/-- The operations of that region. -/
def opsIn (i : Nat) : Code → Option (Array Oper)
  | .region id ops _ => if id = i then some ops else none
  | .seq x y => match opsIn i x with
    | some c => some c
    | none => opsIn i y
  | .cond _ x y => match opsIn i x with
    | some c => some c
    | none => opsIn i y
  | .block _ x => opsIn i x
  | _ => none

theorem at_ops {o : Option (Array Oper)} {c' : Array Oper} {P : Array Oper → Prop} (h : o = some c') (H : P c') : ∀ c, o = some c → P c := fun c hc => by
  rw [h] at hc
  cases hc
  exact H

set_option maxRecDepth 8000 in
set_option maxHeartbeats 4000000 in
theorem m7_012346 {w0 : World} {a : Option Addr} {len cap b : Nat} {w : World} {bx : Nat} {k : Int} {nm : ByteArray} {a3 : Option Addr} {c3 : Nat} {l : List At} {tx : ByteArray} {u1 u2 u4 u5 u6 u7 u8 u9 u10 u11 u12 u13 u14 u15 u16 u17 u18 u19 u20 u21 u22 u23 u24 u32 u33 u34 u35 u36 u37 u38 u39 u40 u41 u42 u43 : Value} {Q : Exit → Act → World → Prop} {W : World} {t0 : Nat} {S7 : ByteArray} {t2 : Nat} {S0 : ByteArray} {t4 : Nat} {x : Nat} (hlen : len ≤ 4096) (HR : Hid (CodeRow w0 a len)) (hP : ∀ x A W o v, Q (.panic x) (Act.put A o v) W → Q (.panic x) A W) (hQ : ∀ (tA : ByteArray) (x25 x26 x27 x28 x29 x30 x31 x32 x33 x34 : Value) (W' : World), tA.size ≤ 3 → AnSt w0 a len cap b w bx k nm a3 c3 l tA W' → Q .normal { tmps := #[.pointer (some ⟨b, 0, none⟩), u1, u2, .pointer (some ⟨bx, 0, none⟩), u4, u5, u6, u7, u8, u9, u10, u11, u12, u13, u14, u15, u16, u17, u18, u19, u20, u21, u22, u23, u24, x25, x26, x27, x28, x29, x30, x31, x32, x33, x34, u35, u36, u37, u38, u39, u40, u41, u42, u43], defers := [] } W') (HS : Hid (AnSt w0 a len cap b w bx k nm a3 c3 l tx W)) (HS7 : Hid (S7.size ≤ 3)) (HS0 : Hid (S0.size ≤ 3)) (HT4 : Hid (W.heap[t4]? = some (.cells #[.string ⟨#[]⟩, .string S7, .string S0] 9))) (HT4B : Hid (¬ t4 = b)) (hx : x < 3) :
    ∀ ops, Tryz.f46.body.bind (opsIn 9) = some ops → wpAnyH Tryz.prog .any ops Q (fun _ => True) 4 #[true, true, true, true, true, true, true, false, false, false, false] { tmps := #[.pointer (some ⟨b, 0, none⟩), u1, u2, .pointer (some ⟨bx, 0, none⟩), u4, u5, u6, u7, u8, u9, u10, u11, u12, u13, u14, u15, u16, u17, u18, u19, u20, u21, u22, u23, u24, .slice (some ⟨t0, 0, none⟩) 1 1, .string S7, .slice (some ⟨t2, 0, none⟩) 3 3, .string S0, .slice (some ⟨t4, 0, none⟩) 3 3, .pointer (some ⟨b, 0, none⟩), .int .i64 (x : Int), u32, u33, u34, u35, u36, u37, u38, u39, u40, u41, u42, u43], defers := [] } W := by
  refine at_ops rfl ?_
  have hxn : (x : Int) < 3 := by omega
  refine wpAnyH_take (i := 7) (v := ?_) rfl (by kernel_rfl) (by kernel_rfl) (by kernel_rfl) (fun _ _ _ h => hP _ _ _ _ _ h) (Or.inl ⟨by rfl, ?_⟩) trivial ?_
  rotate_left
  · intro w hSw
    go_simp
    try (with_reducible rfl)
  try simp only [Act.put, List.setIfInBounds_toArray, List.set_cons_zero, List.set_cons_succ]
  refine wpAnyH_ready (rs := [8]) (by kernel_rfl) (by simp) (AllReadyH.cons rfl (fun K hK => ?_) AllReadyH.nil)
  obtain ⟨tA, hcA, htA⟩ := tabS_at W t4 x S7 S0 hx HS7.out HS0.out HT4.out
  go_simp
  refine hK.out _ _ trivial (fun _ => ?_)
  clear hK K
  try simp only [Act.put, List.setIfInBounds_toArray, List.set_cons_zero, List.set_cons_succ]
  clear hcA
  refine wpAnyH_take (i := 9) (v := ?_) rfl (by kernel_rfl) (by kernel_rfl) (by kernel_rfl) (fun _ _ _ h => hP _ _ _ _ _ h) (Or.inl ⟨by rfl, ?_⟩) trivial ?_
  rotate_left
  · intro w hSw
    go_simp
    try (with_reducible rfl)
  try simp only [Act.put, List.setIfInBounds_toArray, List.set_cons_zero, List.set_cons_succ]
  refine wpAnyH_ready (rs := [10]) (by kernel_rfl) (by simp) (AllReadyH.cons rfl (fun K hK => ?_) AllReadyH.nil)
  obtain ⟨⟨c0, c1, c2, c4⟩, f0, f1, f2, f3⟩ := box4 HS.out.box
  go_simp
  refine hK.out _ _ trivial (fun _ => ?_)
  clear hK K
  try simp only [Act.put, List.setIfInBounds_toArray, List.set_cons_zero, List.set_cons_succ]
  clear c0 c1 c2 c4 f0 f1 f2 f3
  have HF := hid (HS.out.text tA)
  refine wpAnyH_done (by kernel_rfl) ?_ _
  exact hQ _ _ _ _ _ _ _ _ _ _ _ _ htA HF.out

set_option maxRecDepth 8000 in
set_option maxHeartbeats 4000000 in
theorem m7_01234 {w0 : World} {a : Option Addr} {len cap b : Nat} {w : World} {bx : Nat} {k : Int} {nm : ByteArray} {a3 : Option Addr} {c3 : Nat} {l : List At} {tx : ByteArray} {u1 u2 u4 u5 u6 u7 u8 u9 u10 u11 u12 u13 u14 u15 u16 u17 u18 u19 u20 u21 u22 u23 u24 u31 u32 u33 u34 u35 u36 u37 u38 u39 u40 u41 u42 u43 : Value} {Q : Exit → Act → World → Prop} {W : World} {t0 : Nat} {S7 : ByteArray} {t2 : Nat} {S0 : ByteArray} {t4 : Nat} (hlen : len ≤ 4096) (HR : Hid (CodeRow w0 a len)) (hP : ∀ x A W o v, Q (.panic x) (Act.put A o v) W → Q (.panic x) A W) (hQ : ∀ (tA : ByteArray) (x25 x26 x27 x28 x29 x30 x31 x32 x33 x34 : Value) (W' : World), tA.size ≤ 3 → AnSt w0 a len cap b w bx k nm a3 c3 l tA W' → Q .normal { tmps := #[.pointer (some ⟨b, 0, none⟩), u1, u2, .pointer (some ⟨bx, 0, none⟩), u4, u5, u6, u7, u8, u9, u10, u11, u12, u13, u14, u15, u16, u17, u18, u19, u20, u21, u22, u23, u24, x25, x26, x27, x28, x29, x30, x31, x32, x33, x34, u35, u36, u37, u38, u39, u40, u41, u42, u43], defers := [] } W') (HS : Hid (AnSt w0 a len cap b w bx k nm a3 c3 l tx W)) (HS7 : Hid (S7.size ≤ 3)) (HS0 : Hid (S0.size ≤ 3)) (HT4 : Hid (W.heap[t4]? = some (.cells #[.string ⟨#[]⟩, .string S7, .string S0] 9))) (HT4B : Hid (¬ t4 = b)) :
    ∀ ops, Tryz.f46.body.bind (opsIn 9) = some ops → wpAnyH Tryz.prog .any ops Q (fun _ => True) 5 #[true, true, true, true, true, true, false, false, false, false, false] { tmps := #[.pointer (some ⟨b, 0, none⟩), u1, u2, .pointer (some ⟨bx, 0, none⟩), u4, u5, u6, u7, u8, u9, u10, u11, u12, u13, u14, u15, u16, u17, u18, u19, u20, u21, u22, u23, u24, .slice (some ⟨t0, 0, none⟩) 1 1, .string S7, .slice (some ⟨t2, 0, none⟩) 3 3, .string S0, .slice (some ⟨t4, 0, none⟩) 3 3, .pointer (some ⟨b, 0, none⟩), u31, u32, u33, u34, u35, u36, u37, u38, u39, u40, u41, u42, u43], defers := [] } W := by
  refine at_ops rfl ?_
  refine wpAnyH_ready (rs := [6]) (by kernel_rfl) (by simp) (AllReadyH.cons rfl (fun K hK => ?_) AllReadyH.nil)
  · go_simp
    refine (cBelow 3 w0 a len cap b _ hlen HR.out HS.out.dst.cur (by omega) (by omega)).mono ?_
    rintro e W2 ⟨x, rfl, hx, hC, hG⟩
    replace HT4 := hid ((hG.block _ (lt_of_heap HT4.out) (fun e => HT4B.out (Option.some.inj e))).trans HT4.out)
    replace HS := hid (HS.out.draw hC hG)
    clear hC hG
    go_wp2_with fail
    refine hK.out _ _ trivial (fun _ => ?_)
    clear hK K
    try simp only [Act.put, List.setIfInBounds_toArray, List.set_cons_zero, List.set_cons_succ]
    exact m7_012346 hlen HR hP hQ HS HS7 HS0 HT4 HT4B hx _ rfl

set_option maxRecDepth 8000 in
set_option maxHeartbeats 4000000 in
theorem m7_01236 {w0 : World} {a : Option Addr} {len cap b : Nat} {w : World} {bx : Nat} {k : Int} {nm : ByteArray} {a3 : Option Addr} {c3 : Nat} {l : List At} {tx : ByteArray} {u1 u2 u4 u5 u6 u7 u8 u9 u10 u11 u12 u13 u14 u15 u16 u17 u18 u19 u20 u21 u22 u23 u24 u29 u32 u33 u34 u35 u36 u37 u38 u39 u40 u41 u42 u43 : Value} {Q : Exit → Act → World → Prop} {W : World} {t0 : Nat} {S7 : ByteArray} {t2 : Nat} {S0 : ByteArray} {x : Nat} (hlen : len ≤ 4096) (HR : Hid (CodeRow w0 a len)) (hP : ∀ x A W o v, Q (.panic x) (Act.put A o v) W → Q (.panic x) A W) (hQ : ∀ (tA : ByteArray) (x25 x26 x27 x28 x29 x30 x31 x32 x33 x34 : Value) (W' : World), tA.size ≤ 3 → AnSt w0 a len cap b w bx k nm a3 c3 l tA W' → Q .normal { tmps := #[.pointer (some ⟨b, 0, none⟩), u1, u2, .pointer (some ⟨bx, 0, none⟩), u4, u5, u6, u7, u8, u9, u10, u11, u12, u13, u14, u15, u16, u17, u18, u19, u20, u21, u22, u23, u24, x25, x26, x27, x28, x29, x30, x31, x32, x33, x34, u35, u36, u37, u38, u39, u40, u41, u42, u43], defers := [] } W') (HS : Hid (AnSt w0 a len cap b w bx k nm a3 c3 l tx W)) (HS7 : Hid (S7.size ≤ 3)) (HS0 : Hid (S0.size ≤ 3)) (hx : x < 3) :
    ∀ ops, Tryz.f46.body.bind (opsIn 9) = some ops → wpAnyH Tryz.prog .any ops Q (fun _ => True) 5 #[true, true, true, true, false, true, true, false, false, false, false] { tmps := #[.pointer (some ⟨b, 0, none⟩), u1, u2, .pointer (some ⟨bx, 0, none⟩), u4, u5, u6, u7, u8, u9, u10, u11, u12, u13, u14, u15, u16, u17, u18, u19, u20, u21, u22, u23, u24, .slice (some ⟨t0, 0, none⟩) 1 1, .string S7, .slice (some ⟨t2, 0, none⟩) 3 3, .string S0, u29, .pointer (some ⟨b, 0, none⟩), .int .i64 (x : Int), u32, u33, u34, u35, u36, u37, u38, u39, u40, u41, u42, u43], defers := [] } W := by
  refine at_ops rfl ?_
  refine wpAnyH_ready (rs := [4]) (by kernel_rfl) (by simp) (AllReadyH.cons rfl (fun K hK => ?_) AllReadyH.nil)
  · have HT4B := hid (show ¬ W.heap.size = b by have := HS.out.dst.cur.lt; omega)
    go_simp
    refine hK.out _ _ trivial (fun _ => ?_)
    clear hK K
    try simp only [Act.put, List.setIfInBounds_toArray, List.set_cons_zero, List.set_cons_succ]
    have HT4 := hid (heap_alloc_new W (.cells #[.string ⟨#[]⟩, .string S7, .string S0] 9))
    replace HS := hid (HS.out.alloc (.cells #[.string ⟨#[]⟩, .string S7, .string S0] 9))
    exact m7_012346 hlen HR hP hQ HS HS7 HS0 HT4 HT4B hx _ rfl

set_option maxRecDepth 8000 in
set_option maxHeartbeats 4000000 in
theorem m7_0123 {w0 : World} {a : Option Addr} {len cap b : Nat} {w : World} {bx : Nat} {k : Int} {nm : ByteArray} {a3 : Option Addr} {c3 : Nat} {l : List At} {tx : ByteArray} {u1 u2 u4 u5 u6 u7 u8 u9 u10 u11 u12 u13 u14 u15 u16 u17 u18 u19 u20 u21 u22 u23 u24 u29 u31 u32 u33 u34 u35 u36 u37 u38 u39 u40 u41 u42 u43 : Value} {Q : Exit → Act → World → Prop} {W : World} {t0 : Nat} {S7 : ByteArray} {t2 : Nat} {S0 : ByteArray} (hlen : len ≤ 4096) (HR : Hid (CodeRow w0 a len)) (hP : ∀ x A W o v, Q (.panic x) (Act.put A o v) W → Q (.panic x) A W) (hQ : ∀ (tA : ByteArray) (x25 x26 x27 x28 x29 x30 x31 x32 x33 x34 : Value) (W' : World), tA.size ≤ 3 → AnSt w0 a len cap b w bx k nm a3 c3 l tA W' → Q .normal { tmps := #[.pointer (some ⟨b, 0, none⟩), u1, u2, .pointer (some ⟨bx, 0, none⟩), u4, u5, u6, u7, u8, u9, u10, u11, u12, u13, u14, u15, u16, u17, u18, u19, u20, u21, u22, u23, u24, x25, x26, x27, x28, x29, x30, x31, x32, x33, x34, u35, u36, u37, u38, u39, u40, u41, u42, u43], defers := [] } W') (HS : Hid (AnSt w0 a len cap b w bx k nm a3 c3 l tx W)) (HS7 : Hid (S7.size ≤ 3)) (HS0 : Hid (S0.size ≤ 3)) :
    ∀ ops, Tryz.f46.body.bind (opsIn 9) = some ops → wpAnyH Tryz.prog .any ops Q (fun _ => True) 6 #[true, true, true, true, false, true, false, false, false, false, false] { tmps := #[.pointer (some ⟨b, 0, none⟩), u1, u2, .pointer (some ⟨bx, 0, none⟩), u4, u5, u6, u7, u8, u9, u10, u11, u12, u13, u14, u15, u16, u17, u18, u19, u20, u21, u22, u23, u24, .slice (some ⟨t0, 0, none⟩) 1 1, .string S7, .slice (some ⟨t2, 0, none⟩) 3 3, .string S0, u29, .pointer (some ⟨b, 0, none⟩), u31, u32, u33, u34, u35, u36, u37, u38, u39, u40, u41, u42, u43], defers := [] } W := by
  refine at_ops rfl ?_
  refine wpAnyH_ready (rs := [4, 6]) (by kernel_rfl) (by simp) (AllReadyH.cons rfl (fun K hK => ?_) (AllReadyH.cons rfl (fun K hK => ?_) AllReadyH.nil))
  · have HT4B := hid (show ¬ W.heap.size = b by have := HS.out.dst.cur.lt; omega)
    go_simp
    refine hK.out _ _ trivial (fun _ => ?_)
    clear hK K
    try simp only [Act.put, List.setIfInBounds_toArray, List.set_cons_zero, List.set_cons_succ]
    have HT4 := hid (heap_alloc_new W (.cells #[.string ⟨#[]⟩, .string S7, .string S0] 9))
    replace HS := hid (HS.out.alloc (.cells #[.string ⟨#[]⟩, .string S7, .string S0] 9))
    exact m7_01234 hlen HR hP hQ HS HS7 HS0 HT4 HT4B _ rfl
  · go_simp
    refine (cBelow 3 w0 a len cap b _ hlen HR.out HS.out.dst.cur (by omega) (by omega)).mono ?_
    rintro e W2 ⟨x, rfl, hx, hC, hG⟩
    replace HS := hid (HS.out.draw hC hG)
    clear hC hG
    go_wp2_with fail
    refine hK.out _ _ trivial (fun _ => ?_)
    clear hK K
    try simp only [Act.put, List.setIfInBounds_toArray, List.set_cons_zero, List.set_cons_succ]
    exact m7_01236 hlen HR hP hQ HS HS7 HS0 hx _ rfl

set_option maxRecDepth 8000 in
set_option maxHeartbeats 4000000 in
theorem m7_0126 {w0 : World} {a : Option Addr} {len cap b : Nat} {w : World} {bx : Nat} {k : Int} {nm : ByteArray} {a3 : Option Addr} {c3 : Nat} {l : List At} {tx : ByteArray} {u1 u2 u4 u5 u6 u7 u8 u9 u10 u11 u12 u13 u14 u15 u16 u17 u18 u19 u20 u21 u22 u23 u24 u28 u29 u32 u33 u34 u35 u36 u37 u38 u39 u40 u41 u42 u43 : Value} {Q : Exit → Act → World → Prop} {W : World} {t0 : Nat} {S7 : ByteArray} {t2 : Nat} {x : Nat} (hlen : len ≤ 4096) (HR : Hid (CodeRow w0 a len)) (hP : ∀ x A W o v, Q (.panic x) (Act.put A o v) W → Q (.panic x) A W) (hQ : ∀ (tA : ByteArray) (x25 x26 x27 x28 x29 x30 x31 x32 x33 x34 : Value) (W' : World), tA.size ≤ 3 → AnSt w0 a len cap b w bx k nm a3 c3 l tA W' → Q .normal { tmps := #[.pointer (some ⟨b, 0, none⟩), u1, u2, .pointer (some ⟨bx, 0, none⟩), u4, u5, u6, u7, u8, u9, u10, u11, u12, u13, u14, u15, u16, u17, u18, u19, u20, u21, u22, u23, u24, x25, x26, x27, x28, x29, x30, x31, x32, x33, x34, u35, u36, u37, u38, u39, u40, u41, u42, u43], defers := [] } W') (HS : Hid (AnSt w0 a len cap b w bx k nm a3 c3 l tx W)) (HS7 : Hid (S7.size ≤ 3)) (HT2 : Hid (W.heap[t2]? = some (.cells #[.int .u8 0, .int .u8 0, .int .u8 0] 5))) (HT2B : Hid (¬ t2 = b)) (hx : x < 3) :
    ∀ ops, Tryz.f46.body.bind (opsIn 9) = some ops → wpAnyH Tryz.prog .any ops Q (fun _ => True) 6 #[true, true, true, false, false, true, true, false, false, false, false] { tmps := #[.pointer (some ⟨b, 0, none⟩), u1, u2, .pointer (some ⟨bx, 0, none⟩), u4, u5, u6, u7, u8, u9, u10, u11, u12, u13, u14, u15, u16, u17, u18, u19, u20, u21, u22, u23, u24, .slice (some ⟨t0, 0, none⟩) 1 1, .string S7, .slice (some ⟨t2, 0, none⟩) 3 3, u28, u29, .pointer (some ⟨b, 0, none⟩), .int .i64 (x : Int), u32, u33, u34, u35, u36, u37, u38, u39, u40, u41, u42, u43], defers := [] } W := by
  refine at_ops rfl ?_
  refine wpAnyH_ready (rs := [3]) (by kernel_rfl) (by simp) (AllReadyH.cons rfl (fun K hK => ?_) AllReadyH.nil)
  · have hr0 := conv0 W t2 HT2.out
    go_simp
    refine hK.out _ _ trivial (fun _ => ?_)
    clear hK K
    try simp only [Act.put, List.setIfInBounds_toArray, List.set_cons_zero, List.set_cons_succ]
    have HS0 := hid three_sz
    exact m7_01236 hlen HR hP hQ HS HS7 HS0 hx _ rfl

set_option maxRecDepth 8000 in
set_option maxHeartbeats 4000000 in
theorem m7_012 {w0 : World} {a : Option Addr} {len cap b : Nat} {w : World} {bx : Nat} {k : Int} {nm : ByteArray} {a3 : Option Addr} {c3 : Nat} {l : List At} {tx : ByteArray} {u1 u2 u4 u5 u6 u7 u8 u9 u10 u11 u12 u13 u14 u15 u16 u17 u18 u19 u20 u21 u22 u23 u24 u28 u29 u31 u32 u33 u34 u35 u36 u37 u38 u39 u40 u41 u42 u43 : Value} {Q : Exit → Act → World → Prop} {W : World} {t0 : Nat} {S7 : ByteArray} {t2 : Nat} (hlen : len ≤ 4096) (HR : Hid (CodeRow w0 a len)) (hP : ∀ x A W o v, Q (.panic x) (Act.put A o v) W → Q (.panic x) A W) (hQ : ∀ (tA : ByteArray) (x25 x26 x27 x28 x29 x30 x31 x32 x33 x34 : Value) (W' : World), tA.size ≤ 3 → AnSt w0 a len cap b w bx k nm a3 c3 l tA W' → Q .normal { tmps := #[.pointer (some ⟨b, 0, none⟩), u1, u2, .pointer (some ⟨bx, 0, none⟩), u4, u5, u6, u7, u8, u9, u10, u11, u12, u13, u14, u15, u16, u17, u18, u19, u20, u21, u22, u23, u24, x25, x26, x27, x28, x29, x30, x31, x32, x33, x34, u35, u36, u37, u38, u39, u40, u41, u42, u43], defers := [] } W') (HS : Hid (AnSt w0 a len cap b w bx k nm a3 c3 l tx W)) (HS7 : Hid (S7.size ≤ 3)) (HT2 : Hid (W.heap[t2]? = some (.cells #[.int .u8 0, .int .u8 0, .int .u8 0] 5))) (HT2B : Hid (¬ t2 = b)) :
    ∀ ops, Tryz.f46.body.bind (opsIn 9) = some ops → wpAnyH Tryz.prog .any ops Q (fun _ => True) 7 #[true, true, true, false, false, true, false, false, false, false, false] { tmps := #[.pointer (some ⟨b, 0, none⟩), u1, u2, .pointer (some ⟨bx, 0, none⟩), u4, u5, u6, u7, u8, u9, u10, u11, u12, u13, u14, u15, u16, u17, u18, u19, u20, u21, u22, u23, u24, .slice (some ⟨t0, 0, none⟩) 1 1, .string S7, .slice (some ⟨t2, 0, none⟩) 3 3, u28, u29, .pointer (some ⟨b, 0, none⟩), u31, u32, u33, u34, u35, u36, u37, u38, u39, u40, u41, u42, u43], defers := [] } W := by
  refine at_ops rfl ?_
  refine wpAnyH_ready (rs := [3, 6]) (by kernel_rfl) (by simp) (AllReadyH.cons rfl (fun K hK => ?_) (AllReadyH.cons rfl (fun K hK => ?_) AllReadyH.nil))
  · have hr0 := conv0 W t2 HT2.out
    go_simp
    refine hK.out _ _ trivial (fun _ => ?_)
    clear hK K
    try simp only [Act.put, List.setIfInBounds_toArray, List.set_cons_zero, List.set_cons_succ]
    have HS0 := hid three_sz
    exact m7_0123 hlen HR hP hQ HS HS7 HS0 _ rfl
  · go_simp
    refine (cBelow 3 w0 a len cap b _ hlen HR.out HS.out.dst.cur (by omega) (by omega)).mono ?_
    rintro e W2 ⟨x, rfl, hx, hC, hG⟩
    replace HT2 := hid ((hG.block _ (lt_of_heap HT2.out) (fun e => HT2B.out (Option.some.inj e))).trans HT2.out)
    replace HS := hid (HS.out.draw hC hG)
    clear hC hG
    go_wp2_with fail
    refine hK.out _ _ trivial (fun _ => ?_)
    clear hK K
    try simp only [Act.put, List.setIfInBounds_toArray, List.set_cons_zero, List.set_cons_succ]
    exact m7_0126 hlen HR hP hQ HS HS7 HT2 HT2B hx _ rfl

set_option maxRecDepth 8000 in
set_option maxHeartbeats 4000000 in
theorem m7_016 {w0 : World} {a : Option Addr} {len cap b : Nat} {w : World} {bx : Nat} {k : Int} {nm : ByteArray} {a3 : Option Addr} {c3 : Nat} {l : List At} {tx : ByteArray} {u1 u2 u4 u5 u6 u7 u8 u9 u10 u11 u12 u13 u14 u15 u16 u17 u18 u19 u20 u21 u22 u23 u24 u27 u28 u29 u32 u33 u34 u35 u36 u37 u38 u39 u40 u41 u42 u43 : Value} {Q : Exit → Act → World → Prop} {W : World} {t0 : Nat} {S7 : ByteArray} {x : Nat} (hlen : len ≤ 4096) (HR : Hid (CodeRow w0 a len)) (hP : ∀ x A W o v, Q (.panic x) (Act.put A o v) W → Q (.panic x) A W) (hQ : ∀ (tA : ByteArray) (x25 x26 x27 x28 x29 x30 x31 x32 x33 x34 : Value) (W' : World), tA.size ≤ 3 → AnSt w0 a len cap b w bx k nm a3 c3 l tA W' → Q .normal { tmps := #[.pointer (some ⟨b, 0, none⟩), u1, u2, .pointer (some ⟨bx, 0, none⟩), u4, u5, u6, u7, u8, u9, u10, u11, u12, u13, u14, u15, u16, u17, u18, u19, u20, u21, u22, u23, u24, x25, x26, x27, x28, x29, x30, x31, x32, x33, x34, u35, u36, u37, u38, u39, u40, u41, u42, u43], defers := [] } W') (HS : Hid (AnSt w0 a len cap b w bx k nm a3 c3 l tx W)) (HS7 : Hid (S7.size ≤ 3)) (hx : x < 3) :
    ∀ ops, Tryz.f46.body.bind (opsIn 9) = some ops → wpAnyH Tryz.prog .any ops Q (fun _ => True) 7 #[true, true, false, false, false, true, true, false, false, false, false] { tmps := #[.pointer (some ⟨b, 0, none⟩), u1, u2, .pointer (some ⟨bx, 0, none⟩), u4, u5, u6, u7, u8, u9, u10, u11, u12, u13, u14, u15, u16, u17, u18, u19, u20, u21, u22, u23, u24, .slice (some ⟨t0, 0, none⟩) 1 1, .string S7, u27, u28, u29, .pointer (some ⟨b, 0, none⟩), .int .i64 (x : Int), u32, u33, u34, u35, u36, u37, u38, u39, u40, u41, u42, u43], defers := [] } W := by
  refine at_ops rfl ?_
  refine wpAnyH_ready (rs := [2]) (by kernel_rfl) (by simp) (AllReadyH.cons rfl (fun K hK => ?_) AllReadyH.nil)
  · have HT2B := hid (show ¬ W.heap.size = b by have := HS.out.dst.cur.lt; omega)
    have hmk := mk3 W
    go_simp
    refine hK.out _ _ trivial (fun _ => ?_)
    clear hK K
    try simp only [Act.put, List.setIfInBounds_toArray, List.set_cons_zero, List.set_cons_succ]
    clear hmk
    have HT2 := hid (heap_alloc_new W (.cells #[.int .u8 0, .int .u8 0, .int .u8 0] 5))
    replace HS := hid (HS.out.alloc (.cells #[.int .u8 0, .int .u8 0, .int .u8 0] 5))
    exact m7_0126 hlen HR hP hQ HS HS7 HT2 HT2B hx _ rfl

set_option maxRecDepth 8000 in
set_option maxHeartbeats 4000000 in
theorem m7_01 {w0 : World} {a : Option Addr} {len cap b : Nat} {w : World} {bx : Nat} {k : Int} {nm : ByteArray} {a3 : Option Addr} {c3 : Nat} {l : List At} {tx : ByteArray} {u1 u2 u4 u5 u6 u7 u8 u9 u10 u11 u12 u13 u14 u15 u16 u17 u18 u19 u20 u21 u22 u23 u24 u27 u28 u29 u31 u32 u33 u34 u35 u36 u37 u38 u39 u40 u41 u42 u43 : Value} {Q : Exit → Act → World → Prop} {W : World} {t0 : Nat} {S7 : ByteArray} (hlen : len ≤ 4096) (HR : Hid (CodeRow w0 a len)) (hP : ∀ x A W o v, Q (.panic x) (Act.put A o v) W → Q (.panic x) A W) (hQ : ∀ (tA : ByteArray) (x25 x26 x27 x28 x29 x30 x31 x32 x33 x34 : Value) (W' : World), tA.size ≤ 3 → AnSt w0 a len cap b w bx k nm a3 c3 l tA W' → Q .normal { tmps := #[.pointer (some ⟨b, 0, none⟩), u1, u2, .pointer (some ⟨bx, 0, none⟩), u4, u5, u6, u7, u8, u9, u10, u11, u12, u13, u14, u15, u16, u17, u18, u19, u20, u21, u22, u23, u24, x25, x26, x27, x28, x29, x30, x31, x32, x33, x34, u35, u36, u37, u38, u39, u40, u41, u42, u43], defers := [] } W') (HS : Hid (AnSt w0 a len cap b w bx k nm a3 c3 l tx W)) (HS7 : Hid (S7.size ≤ 3)) :
    ∀ ops, Tryz.f46.body.bind (opsIn 9) = some ops → wpAnyH Tryz.prog .any ops Q (fun _ => True) 8 #[true, true, false, false, false, true, false, false, false, false, false] { tmps := #[.pointer (some ⟨b, 0, none⟩), u1, u2, .pointer (some ⟨bx, 0, none⟩), u4, u5, u6, u7, u8, u9, u10, u11, u12, u13, u14, u15, u16, u17, u18, u19, u20, u21, u22, u23, u24, .slice (some ⟨t0, 0, none⟩) 1 1, .string S7, u27, u28, u29, .pointer (some ⟨b, 0, none⟩), u31, u32, u33, u34, u35, u36, u37, u38, u39, u40, u41, u42, u43], defers := [] } W := by
  refine at_ops rfl ?_
  refine wpAnyH_ready (rs := [2, 6]) (by kernel_rfl) (by simp) (AllReadyH.cons rfl (fun K hK => ?_) (AllReadyH.cons rfl (fun K hK => ?_) AllReadyH.nil))
  · have HT2B := hid (show ¬ W.heap.size = b by have := HS.out.dst.cur.lt; omega)
    have hmk := mk3 W
    go_simp
    refine hK.out _ _ trivial (fun _ => ?_)
    clear hK K
    try simp only [Act.put, List.setIfInBounds_toArray, List.set_cons_zero, List.set_cons_succ]
    clear hmk
    have HT2 := hid (heap_alloc_new W (.cells #[.int .u8 0, .int .u8 0, .int .u8 0] 5))
    replace HS := hid (HS.out.alloc (.cells #[.int .u8 0, .int .u8 0, .int .u8 0] 5))
    exact m7_012 hlen HR hP hQ HS HS7 HT2 HT2B _ rfl
  · go_simp
    refine (cBelow 3 w0 a len cap b _ hlen HR.out HS.out.dst.cur (by omega) (by omega)).mono ?_
    rintro e W2 ⟨x, rfl, hx, hC, hG⟩
    replace HS := hid (HS.out.draw hC hG)
    clear hC hG
    go_wp2_with fail
    refine hK.out _ _ trivial (fun _ => ?_)
    clear hK K
    try simp only [Act.put, List.setIfInBounds_toArray, List.set_cons_zero, List.set_cons_succ]
    exact m7_016 hlen HR hP hQ HS HS7 hx _ rfl

set_option maxRecDepth 8000 in
set_option maxHeartbeats 4000000 in
theorem m7_0236 {w0 : World} {a : Option Addr} {len cap b : Nat} {w : World} {bx : Nat} {k : Int} {nm : ByteArray} {a3 : Option Addr} {c3 : Nat} {l : List At} {tx : ByteArray} {u1 u2 u4 u5 u6 u7 u8 u9 u10 u11 u12 u13 u14 u15 u16 u17 u18 u19 u20 u21 u22 u23 u24 u26 u29 u32 u33 u34 u35 u36 u37 u38 u39 u40 u41 u42 u43 : Value} {Q : Exit → Act → World → Prop} {W : World} {t0 : Nat} {t2 : Nat} {S0 : ByteArray} {x : Nat} (hlen : len ≤ 4096) (HR : Hid (CodeRow w0 a len)) (hP : ∀ x A W o v, Q (.panic x) (Act.put A o v) W → Q (.panic x) A W) (hQ : ∀ (tA : ByteArray) (x25 x26 x27 x28 x29 x30 x31 x32 x33 x34 : Value) (W' : World), tA.size ≤ 3 → AnSt w0 a len cap b w bx k nm a3 c3 l tA W' → Q .normal { tmps := #[.pointer (some ⟨b, 0, none⟩), u1, u2, .pointer (some ⟨bx, 0, none⟩), u4, u5, u6, u7, u8, u9, u10, u11, u12, u13, u14, u15, u16, u17, u18, u19, u20, u21, u22, u23, u24, x25, x26, x27, x28, x29, x30, x31, x32, x33, x34, u35, u36, u37, u38, u39, u40, u41, u42, u43], defers := [] } W') (HS : Hid (AnSt w0 a len cap b w bx k nm a3 c3 l tx W)) (HT0 : Hid (W.heap[t0]? = some (.cells #[.int .u8 7] 5))) (HT0B : Hid (¬ t0 = b)) (HS0 : Hid (S0.size ≤ 3)) (hx : x < 3) :
    ∀ ops, Tryz.f46.body.bind (opsIn 9) = some ops → wpAnyH Tryz.prog .any ops Q (fun _ => True) 6 #[true, false, true, true, false, true, true, false, false, false, false] { tmps := #[.pointer (some ⟨b, 0, none⟩), u1, u2, .pointer (some ⟨bx, 0, none⟩), u4, u5, u6, u7, u8, u9, u10, u11, u12, u13, u14, u15, u16, u17, u18, u19, u20, u21, u22, u23, u24, .slice (some ⟨t0, 0, none⟩) 1 1, u26, .slice (some ⟨t2, 0, none⟩) 3 3, .string S0, u29, .pointer (some ⟨b, 0, none⟩), .int .i64 (x : Int), u32, u33, u34, u35, u36, u37, u38, u39, u40, u41, u42, u43], defers := [] } W := by
  refine at_ops rfl ?_
  refine wpAnyH_ready (rs := [1]) (by kernel_rfl) (by simp) (AllReadyH.cons rfl (fun K hK => ?_) AllReadyH.nil)
  · have hr7 := conv7 W t0 HT0.out
    go_simp
    refine hK.out _ _ trivial (fun _ => ?_)
    clear hK K
    try simp only [Act.put, List.setIfInBounds_toArray, List.set_cons_zero, List.set_cons_succ]
    have HS7 := hid seven_sz
    exact m7_01236 hlen HR hP hQ HS HS7 HS0 hx _ rfl

set_option maxRecDepth 8000 in
set_option maxHeartbeats 4000000 in
theorem m7_023 {w0 : World} {a : Option Addr} {len cap b : Nat} {w : World} {bx : Nat} {k : Int} {nm : ByteArray} {a3 : Option Addr} {c3 : Nat} {l : List At} {tx : ByteArray} {u1 u2 u4 u5 u6 u7 u8 u9 u10 u11 u12 u13 u14 u15 u16 u17 u18 u19 u20 u21 u22 u23 u24 u26 u29 u31 u32 u33 u34 u35 u36 u37 u38 u39 u40 u41 u42 u43 : Value} {Q : Exit → Act → World → Prop} {W : World} {t0 : Nat} {t2 : Nat} {S0 : ByteArray} (hlen : len ≤ 4096) (HR : Hid (CodeRow w0 a len)) (hP : ∀ x A W o v, Q (.panic x) (Act.put A o v) W → Q (.panic x) A W) (hQ : ∀ (tA : ByteArray) (x25 x26 x27 x28 x29 x30 x31 x32 x33 x34 : Value) (W' : World), tA.size ≤ 3 → AnSt w0 a len cap b w bx k nm a3 c3 l tA W' → Q .normal { tmps := #[.pointer (some ⟨b, 0, none⟩), u1, u2, .pointer (some ⟨bx, 0, none⟩), u4, u5, u6, u7, u8, u9, u10, u11, u12, u13, u14, u15, u16, u17, u18, u19, u20, u21, u22, u23, u24, x25, x26, x27, x28, x29, x30, x31, x32, x33, x34, u35, u36, u37, u38, u39, u40, u41, u42, u43], defers := [] } W') (HS : Hid (AnSt w0 a len cap b w bx k nm a3 c3 l tx W)) (HT0 : Hid (W.heap[t0]? = some (.cells #[.int .u8 7] 5))) (HT0B : Hid (¬ t0 = b)) (HS0 : Hid (S0.size ≤ 3)) :
    ∀ ops, Tryz.f46.body.bind (opsIn 9) = some ops → wpAnyH Tryz.prog .any ops Q (fun _ => True) 7 #[true, false, true, true, false, true, false, false, false, false, false] { tmps := #[.pointer (some ⟨b, 0, none⟩), u1, u2, .pointer (some ⟨bx, 0, none⟩), u4, u5, u6, u7, u8, u9, u10, u11, u12, u13, u14, u15, u16, u17, u18, u19, u20, u21, u22, u23, u24, .slice (some ⟨t0, 0, none⟩) 1 1, u26, .slice (some ⟨t2, 0, none⟩) 3 3, .string S0, u29, .pointer (some ⟨b, 0, none⟩), u31, u32, u33, u34, u35, u36, u37, u38, u39, u40, u41, u42, u43], defers := [] } W := by
  refine at_ops rfl ?_
  refine wpAnyH_ready (rs := [1, 6]) (by kernel_rfl) (by simp) (AllReadyH.cons rfl (fun K hK => ?_) (AllReadyH.cons rfl (fun K hK => ?_) AllReadyH.nil))
  · have hr7 := conv7 W t0 HT0.out
    go_simp
    refine hK.out _ _ trivial (fun _ => ?_)
    clear hK K
    try simp only [Act.put, List.setIfInBounds_toArray, List.set_cons_zero, List.set_cons_succ]
    have HS7 := hid seven_sz
    exact m7_0123 hlen HR hP hQ HS HS7 HS0 _ rfl
  · go_simp
    refine (cBelow 3 w0 a len cap b _ hlen HR.out HS.out.dst.cur (by omega) (by omega)).mono ?_
    rintro e W2 ⟨x, rfl, hx, hC, hG⟩
    replace HT0 := hid ((hG.block _ (lt_of_heap HT0.out) (fun e => HT0B.out (Option.some.inj e))).trans HT0.out)
    replace HS := hid (HS.out.draw hC hG)
    clear hC hG
    go_wp2_with fail
    refine hK.out _ _ trivial (fun _ => ?_)
    clear hK K
    try simp only [Act.put, List.setIfInBounds_toArray, List.set_cons_zero, List.set_cons_succ]
    exact m7_0236 hlen HR hP hQ HS HT0 HT0B HS0 hx _ rfl

set_option maxRecDepth 8000 in
set_option maxHeartbeats 4000000 in
theorem m7_026 {w0 : World} {a : Option Addr} {len cap b : Nat} {w : World} {bx : Nat} {k : Int} {nm : ByteArray} {a3 : Option Addr} {c3 : Nat} {l : List At} {tx : ByteArray} {u1 u2 u4 u5 u6 u7 u8 u9 u10 u11 u12 u13 u14 u15 u16 u17 u18 u19 u20 u21 u22 u23 u24 u26 u28 u29 u32 u33 u34 u35 u36 u37 u38 u39 u40 u41 u42 u43 : Value} {Q : Exit → Act → World → Prop} {W : World} {t0 : Nat} {t2 : Nat} {x : Nat} (hlen : len ≤ 4096) (HR : Hid (CodeRow w0 a len)) (hP : ∀ x A W o v, Q (.panic x) (Act.put A o v) W → Q (.panic x) A W) (hQ : ∀ (tA : ByteArray) (x25 x26 x27 x28 x29 x30 x31 x32 x33 x34 : Value) (W' : World), tA.size ≤ 3 → AnSt w0 a len cap b w bx k nm a3 c3 l tA W' → Q .normal { tmps := #[.pointer (some ⟨b, 0, none⟩), u1, u2, .pointer (some ⟨bx, 0, none⟩), u4, u5, u6, u7, u8, u9, u10, u11, u12, u13, u14, u15, u16, u17, u18, u19, u20, u21, u22, u23, u24, x25, x26, x27, x28, x29, x30, x31, x32, x33, x34, u35, u36, u37, u38, u39, u40, u41, u42, u43], defers := [] } W') (HS : Hid (AnSt w0 a len cap b w bx k nm a3 c3 l tx W)) (HT0 : Hid (W.heap[t0]? = some (.cells #[.int .u8 7] 5))) (HT0B : Hid (¬ t0 = b)) (HT2 : Hid (W.heap[t2]? = some (.cells #[.int .u8 0, .int .u8 0, .int .u8 0] 5))) (HT2B : Hid (¬ t2 = b)) (hx : x < 3) :
    ∀ ops, Tryz.f46.body.bind (opsIn 9) = some ops → wpAnyH Tryz.prog .any ops Q (fun _ => True) 7 #[true, false, true, false, false, true, true, false, false, false, false] { tmps := #[.pointer (some ⟨b, 0, none⟩), u1, u2, .pointer (some ⟨bx, 0, none⟩), u4, u5, u6, u7, u8, u9, u10, u11, u12, u13, u14, u15, u16, u17, u18, u19, u20, u21, u22, u23, u24, .slice (some ⟨t0, 0, none⟩) 1 1, u26, .slice (some ⟨t2, 0, none⟩) 3 3, u28, u29, .pointer (some ⟨b, 0, none⟩), .int .i64 (x : Int), u32, u33, u34, u35, u36, u37, u38, u39, u40, u41, u42, u43], defers := [] } W := by
  refine at_ops rfl ?_
  refine wpAnyH_ready (rs := [1, 3]) (by kernel_rfl) (by simp) (AllReadyH.cons rfl (fun K hK => ?_) (AllReadyH.cons rfl (fun K hK => ?_) AllReadyH.nil))
  · have hr7 := conv7 W t0 HT0.out
    go_simp
    refine hK.out _ _ trivial (fun _ => ?_)
    clear hK K
    try simp only [Act.put, List.setIfInBounds_toArray, List.set_cons_zero, List.set_cons_succ]
    have HS7 := hid seven_sz
    exact m7_0126 hlen HR hP hQ HS HS7 HT2 HT2B hx _ rfl
  · have hr0 := conv0 W t2 HT2.out
    go_simp
    refine hK.out _ _ trivial (fun _ => ?_)
    clear hK K
    try simp only [Act.put, List.setIfInBounds_toArray, List.set_cons_zero, List.set_cons_succ]
    have HS0 := hid three_sz
    exact m7_0236 hlen HR hP hQ HS HT0 HT0B HS0 hx _ rfl

set_option maxRecDepth 8000 in
set_option maxHeartbeats 4000000 in
theorem m7_02 {w0 : World} {a : Option Addr} {len cap b : Nat} {w : World} {bx : Nat} {k : Int} {nm : ByteArray} {a3 : Option Addr} {c3 : Nat} {l : List At} {tx : ByteArray} {u1 u2 u4 u5 u6 u7 u8 u9 u10 u11 u12 u13 u14 u15 u16 u17 u18 u19 u20 u21 u22 u23 u24 u26 u28 u29 u31 u32 u33 u34 u35 u36 u37 u38 u39 u40 u41 u42 u43 : Value} {Q : Exit → Act → World → Prop} {W : World} {t0 : Nat} {t2 : Nat} (hlen : len ≤ 4096) (HR : Hid (CodeRow w0 a len)) (hP : ∀ x A W o v, Q (.panic x) (Act.put A o v) W → Q (.panic x) A W) (hQ : ∀ (tA : ByteArray) (x25 x26 x27 x28 x29 x30 x31 x32 x33 x34 : Value) (W' : World), tA.size ≤ 3 → AnSt w0 a len cap b w bx k nm a3 c3 l tA W' → Q .normal { tmps := #[.pointer (some ⟨b, 0, none⟩), u1, u2, .pointer (some ⟨bx, 0, none⟩), u4, u5, u6, u7, u8, u9, u10, u11, u12, u13, u14, u15, u16, u17, u18, u19, u20, u21, u22, u23, u24, x25, x26, x27, x28, x29, x30, x31, x32, x33, x34, u35, u36, u37, u38, u39, u40, u41, u42, u43], defers := [] } W') (HS : Hid (AnSt w0 a len cap b w bx k nm a3 c3 l tx W)) (HT0 : Hid (W.heap[t0]? = some (.cells #[.int .u8 7] 5))) (HT0B : Hid (¬ t0 = b)) (HT2 : Hid (W.heap[t2]? = some (.cells #[.int .u8 0, .int .u8 0, .int .u8 0] 5))) (HT2B : Hid (¬ t2 = b)) :
    ∀ ops, Tryz.f46.body.bind (opsIn 9) = some ops → wpAnyH Tryz.prog .any ops Q (fun _ => True) 8 #[true, false, true, false, false, true, false, false, false, false, false] { tmps := #[.pointer (some ⟨b, 0, none⟩), u1, u2, .pointer (some ⟨bx, 0, none⟩), u4, u5, u6, u7, u8, u9, u10, u11, u12, u13, u14, u15, u16, u17, u18, u19, u20, u21, u22, u23, u24, .slice (some ⟨t0, 0, none⟩) 1 1, u26, .slice (some ⟨t2, 0, none⟩) 3 3, u28, u29, .pointer (some ⟨b, 0, none⟩), u31, u32, u33, u34, u35, u36, u37, u38, u39, u40, u41, u42, u43], defers := [] } W := by
  refine at_ops rfl ?_
  refine wpAnyH_ready (rs := [1, 3, 6]) (by kernel_rfl) (by simp) (AllReadyH.cons rfl (fun K hK => ?_) (AllReadyH.cons rfl (fun K hK => ?_) (AllReadyH.cons rfl (fun K hK => ?_) AllReadyH.nil)))
  · have hr7 := conv7 W t0 HT0.out
    go_simp
    refine hK.out _ _ trivial (fun _ => ?_)
    clear hK K
    try simp only [Act.put, List.setIfInBounds_toArray, List.set_cons_zero, List.set_cons_succ]
    have HS7 := hid seven_sz
    exact m7_012 hlen HR hP hQ HS HS7 HT2 HT2B _ rfl
  · have hr0 := conv0 W t2 HT2.out
    go_simp
    refine hK.out _ _ trivial (fun _ => ?_)
    clear hK K
    try simp only [Act.put, List.setIfInBounds_toArray, List.set_cons_zero, List.set_cons_succ]
    have HS0 := hid three_sz
    exact m7_023 hlen HR hP hQ HS HT0 HT0B HS0 _ rfl
  · go_simp
    refine (cBelow 3 w0 a len cap b _ hlen HR.out HS.out.dst.cur (by omega) (by omega)).mono ?_
    rintro e W2 ⟨x, rfl, hx, hC, hG⟩
    replace HT0 := hid ((hG.block _ (lt_of_heap HT0.out) (fun e => HT0B.out (Option.some.inj e))).trans HT0.out)
    replace HT2 := hid ((hG.block _ (lt_of_heap HT2.out) (fun e => HT2B.out (Option.some.inj e))).trans HT2.out)
    replace HS := hid (HS.out.draw hC hG)
    clear hC hG
    go_wp2_with fail
    refine hK.out _ _ trivial (fun _ => ?_)
    clear hK K
    try simp only [Act.put, List.setIfInBounds_toArray, List.set_cons_zero, List.set_cons_succ]
    exact m7_026 hlen HR hP hQ HS HT0 HT0B HT2 HT2B hx _ rfl

set_option maxRecDepth 8000 in
set_option maxHeartbeats 4000000 in
theorem m7_06 {w0 : World} {a : Option Addr} {len cap b : Nat} {w : World} {bx : Nat} {k : Int} {nm : ByteArray} {a3 : Option Addr} {c3 : Nat} {l : List At} {tx : ByteArray} {u1 u2 u4 u5 u6 u7 u8 u9 u10 u11 u12 u13 u14 u15 u16 u17 u18 u19 u20 u21 u22 u23 u24 u26 u27 u28 u29 u32 u33 u34 u35 u36 u37 u38 u39 u40 u41 u42 u43 : Value} {Q : Exit → Act → World → Prop} {W : World} {t0 : Nat} {x : Nat} (hlen : len ≤ 4096) (HR : Hid (CodeRow w0 a len)) (hP : ∀ x A W o v, Q (.panic x) (Act.put A o v) W → Q (.panic x) A W) (hQ : ∀ (tA : ByteArray) (x25 x26 x27 x28 x29 x30 x31 x32 x33 x34 : Value) (W' : World), tA.size ≤ 3 → AnSt w0 a len cap b w bx k nm a3 c3 l tA W' → Q .normal { tmps := #[.pointer (some ⟨b, 0, none⟩), u1, u2, .pointer (some ⟨bx, 0, none⟩), u4, u5, u6, u7, u8, u9, u10, u11, u12, u13, u14, u15, u16, u17, u18, u19, u20, u21, u22, u23, u24, x25, x26, x27, x28, x29, x30, x31, x32, x33, x34, u35, u36, u37, u38, u39, u40, u41, u42, u43], defers := [] } W') (HS : Hid (AnSt w0 a len cap b w bx k nm a3 c3 l tx W)) (HT0 : Hid (W.heap[t0]? = some (.cells #[.int .u8 7] 5))) (HT0B : Hid (¬ t0 = b)) (hx : x < 3) :
    ∀ ops, Tryz.f46.body.bind (opsIn 9) = some ops → wpAnyH Tryz.prog .any ops Q (fun _ => True) 8 #[true, false, false, false, false, true, true, false, false, false, false] { tmps := #[.pointer (some ⟨b, 0, none⟩), u1, u2, .pointer (some ⟨bx, 0, none⟩), u4, u5, u6, u7, u8, u9, u10, u11, u12, u13, u14, u15, u16, u17, u18, u19, u20, u21, u22, u23, u24, .slice (some ⟨t0, 0, none⟩) 1 1, u26, u27, u28, u29, .pointer (some ⟨b, 0, none⟩), .int .i64 (x : Int), u32, u33, u34, u35, u36, u37, u38, u39, u40, u41, u42, u43], defers := [] } W := by
  refine at_ops rfl ?_
  refine wpAnyH_ready (rs := [1, 2]) (by kernel_rfl) (by simp) (AllReadyH.cons rfl (fun K hK => ?_) (AllReadyH.cons rfl (fun K hK => ?_) AllReadyH.nil))
  · have hr7 := conv7 W t0 HT0.out
    go_simp
    refine hK.out _ _ trivial (fun _ => ?_)
    clear hK K
    try simp only [Act.put, List.setIfInBounds_toArray, List.set_cons_zero, List.set_cons_succ]
    have HS7 := hid seven_sz
    exact m7_016 hlen HR hP hQ HS HS7 hx _ rfl
  · have HT2B := hid (show ¬ W.heap.size = b by have := HS.out.dst.cur.lt; omega)
    have hmk := mk3 W
    go_simp
    refine hK.out _ _ trivial (fun _ => ?_)
    clear hK K
    try simp only [Act.put, List.setIfInBounds_toArray, List.set_cons_zero, List.set_cons_succ]
    clear hmk
    have HT2 := hid (heap_alloc_new W (.cells #[.int .u8 0, .int .u8 0, .int .u8 0] 5))
    replace HS := hid (HS.out.alloc (.cells #[.int .u8 0, .int .u8 0, .int .u8 0] 5))
    replace HT0 := hid (blk_alloc HT0.out (.cells #[.int .u8 0, .int .u8 0, .int .u8 0] 5))
    exact m7_026 hlen HR hP hQ HS HT0 HT0B HT2 HT2B hx _ rfl

set_option maxRecDepth 8000 in
set_option maxHeartbeats 4000000 in
theorem m7_0 {w0 : World} {a : Option Addr} {len cap b : Nat} {w : World} {bx : Nat} {k : Int} {nm : ByteArray} {a3 : Option Addr} {c3 : Nat} {l : List At} {tx : ByteArray} {u1 u2 u4 u5 u6 u7 u8 u9 u10 u11 u12 u13 u14 u15 u16 u17 u18 u19 u20 u21 u22 u23 u24 u26 u27 u28 u29 u31 u32 u33 u34 u35 u36 u37 u38 u39 u40 u41 u42 u43 : Value} {Q : Exit → Act → World → Prop} {W : World} {t0 : Nat} (hlen : len ≤ 4096) (HR : Hid (CodeRow w0 a len)) (hP : ∀ x A W o v, Q (.panic x) (Act.put A o v) W → Q (.panic x) A W) (hQ : ∀ (tA : ByteArray) (x25 x26 x27 x28 x29 x30 x31 x32 x33 x34 : Value) (W' : World), tA.size ≤ 3 → AnSt w0 a len cap b w bx k nm a3 c3 l tA W' → Q .normal { tmps := #[.pointer (some ⟨b, 0, none⟩), u1, u2, .pointer (some ⟨bx, 0, none⟩), u4, u5, u6, u7, u8, u9, u10, u11, u12, u13, u14, u15, u16, u17, u18, u19, u20, u21, u22, u23, u24, x25, x26, x27, x28, x29, x30, x31, x32, x33, x34, u35, u36, u37, u38, u39, u40, u41, u42, u43], defers := [] } W') (HS : Hid (AnSt w0 a len cap b w bx k nm a3 c3 l tx W)) (HT0 : Hid (W.heap[t0]? = some (.cells #[.int .u8 7] 5))) (HT0B : Hid (¬ t0 = b)) :
    ∀ ops, Tryz.f46.body.bind (opsIn 9) = some ops → wpAnyH Tryz.prog .any ops Q (fun _ => True) 9 #[true, false, false, false, false, true, false, false, false, false, false] { tmps := #[.pointer (some ⟨b, 0, none⟩), u1, u2, .pointer (some ⟨bx, 0, none⟩), u4, u5, u6, u7, u8, u9, u10, u11, u12, u13, u14, u15, u16, u17, u18, u19, u20, u21, u22, u23, u24, .slice (some ⟨t0, 0, none⟩) 1 1, u26, u27, u28, u29, .pointer (some ⟨b, 0, none⟩), u31, u32, u33, u34, u35, u36, u37, u38, u39, u40, u41, u42, u43], defers := [] } W := by
  refine at_ops rfl ?_
  refine wpAnyH_ready (rs := [1, 2, 6]) (by kernel_rfl) (by simp) (AllReadyH.cons rfl (fun K hK => ?_) (AllReadyH.cons rfl (fun K hK => ?_) (AllReadyH.cons rfl (fun K hK => ?_) AllReadyH.nil)))
  · have hr7 := conv7 W t0 HT0.out
    go_simp
    refine hK.out _ _ trivial (fun _ => ?_)
    clear hK K
    try simp only [Act.put, List.setIfInBounds_toArray, List.set_cons_zero, List.set_cons_succ]
    have HS7 := hid seven_sz
    exact m7_01 hlen HR hP hQ HS HS7 _ rfl
  · have HT2B := hid (show ¬ W.heap.size = b by have := HS.out.dst.cur.lt; omega)
    have hmk := mk3 W
    go_simp
    refine hK.out _ _ trivial (fun _ => ?_)
    clear hK K
    try simp only [Act.put, List.setIfInBounds_toArray, List.set_cons_zero, List.set_cons_succ]
    clear hmk
    have HT2 := hid (heap_alloc_new W (.cells #[.int .u8 0, .int .u8 0, .int .u8 0] 5))
    replace HS := hid (HS.out.alloc (.cells #[.int .u8 0, .int .u8 0, .int .u8 0] 5))
    replace HT0 := hid (blk_alloc HT0.out (.cells #[.int .u8 0, .int .u8 0, .int .u8 0] 5))
    exact m7_02 hlen HR hP hQ HS HT0 HT0B HT2 HT2B _ rfl
  · go_simp
    refine (cBelow 3 w0 a len cap b _ hlen HR.out HS.out.dst.cur (by omega) (by omega)).mono ?_
    rintro e W2 ⟨x, rfl, hx, hC, hG⟩
    replace HT0 := hid ((hG.block _ (lt_of_heap HT0.out) (fun e => HT0B.out (Option.some.inj e))).trans HT0.out)
    replace HS := hid (HS.out.draw hC hG)
    clear hC hG
    go_wp2_with fail
    refine hK.out _ _ trivial (fun _ => ?_)
    clear hK K
    try simp only [Act.put, List.setIfInBounds_toArray, List.set_cons_zero, List.set_cons_succ]
    exact m7_06 hlen HR hP hQ HS HT0 HT0B hx _ rfl

set_option maxRecDepth 8000 in
set_option maxHeartbeats 4000000 in
theorem m7_236 {w0 : World} {a : Option Addr} {len cap b : Nat} {w : World} {bx : Nat} {k : Int} {nm : ByteArray} {a3 : Option Addr} {c3 : Nat} {l : List At} {tx : ByteArray} {u1 u2 u4 u5 u6 u7 u8 u9 u10 u11 u12 u13 u14 u15 u16 u17 u18 u19 u20 u21 u22 u23 u24 u25 u26 u29 u32 u33 u34 u35 u36 u37 u38 u39 u40 u41 u42 u43 : Value} {Q : Exit → Act → World → Prop} {W : World} {t2 : Nat} {S0 : ByteArray} {x : Nat} (hlen : len ≤ 4096) (HR : Hid (CodeRow w0 a len)) (hP : ∀ x A W o v, Q (.panic x) (Act.put A o v) W → Q (.panic x) A W) (hQ : ∀ (tA : ByteArray) (x25 x26 x27 x28 x29 x30 x31 x32 x33 x34 : Value) (W' : World), tA.size ≤ 3 → AnSt w0 a len cap b w bx k nm a3 c3 l tA W' → Q .normal { tmps := #[.pointer (some ⟨b, 0, none⟩), u1, u2, .pointer (some ⟨bx, 0, none⟩), u4, u5, u6, u7, u8, u9, u10, u11, u12, u13, u14, u15, u16, u17, u18, u19, u20, u21, u22, u23, u24, x25, x26, x27, x28, x29, x30, x31, x32, x33, x34, u35, u36, u37, u38, u39, u40, u41, u42, u43], defers := [] } W') (HS : Hid (AnSt w0 a len cap b w bx k nm a3 c3 l tx W)) (HS0 : Hid (S0.size ≤ 3)) (hx : x < 3) :
    ∀ ops, Tryz.f46.body.bind (opsIn 9) = some ops → wpAnyH Tryz.prog .any ops Q (fun _ => True) 7 #[false, false, true, true, false, true, true, false, false, false, false] { tmps := #[.pointer (some ⟨b, 0, none⟩), u1, u2, .pointer (some ⟨bx, 0, none⟩), u4, u5, u6, u7, u8, u9, u10, u11, u12, u13, u14, u15, u16, u17, u18, u19, u20, u21, u22, u23, u24, u25, u26, .slice (some ⟨t2, 0, none⟩) 3 3, .string S0, u29, .pointer (some ⟨b, 0, none⟩), .int .i64 (x : Int), u32, u33, u34, u35, u36, u37, u38, u39, u40, u41, u42, u43], defers := [] } W := by
  refine at_ops rfl ?_
  refine wpAnyH_ready (rs := [0]) (by kernel_rfl) (by simp) (AllReadyH.cons rfl (fun K hK => ?_) AllReadyH.nil)
  · have HT0B := hid (show ¬ W.heap.size = b by have := HS.out.dst.cur.lt; omega)
    go_simp
    refine hK.out _ _ trivial (fun _ => ?_)
    clear hK K
    try simp only [Act.put, List.setIfInBounds_toArray, List.set_cons_zero, List.set_cons_succ]
    have HT0 := hid (heap_alloc_new W (.cells #[.int .u8 7] 5))
    replace HS := hid (HS.out.alloc (.cells #[.int .u8 7] 5))
    exact m7_0236 hlen HR hP hQ HS HT0 HT0B HS0 hx _ rfl

set_option maxRecDepth 8000 in
set_option maxHeartbeats 4000000 in
theorem m7_23 {w0 : World} {a : Option Addr} {len cap b : Nat} {w : World} {bx : Nat} {k : Int} {nm : ByteArray} {a3 : Option Addr} {c3 : Nat} {l : List At} {tx : ByteArray} {u1 u2 u4 u5 u6 u7 u8 u9 u10 u11 u12 u13 u14 u15 u16 u17 u18 u19 u20 u21 u22 u23 u24 u25 u26 u29 u31 u32 u33 u34 u35 u36 u37 u38 u39 u40 u41 u42 u43 : Value} {Q : Exit → Act → World → Prop} {W : World} {t2 : Nat} {S0 : ByteArray} (hlen : len ≤ 4096) (HR : Hid (CodeRow w0 a len)) (hP : ∀ x A W o v, Q (.panic x) (Act.put A o v) W → Q (.panic x) A W) (hQ : ∀ (tA : ByteArray) (x25 x26 x27 x28 x29 x30 x31 x32 x33 x34 : Value) (W' : World), tA.size ≤ 3 → AnSt w0 a len cap b w bx k nm a3 c3 l tA W' → Q .normal { tmps := #[.pointer (some ⟨b, 0, none⟩), u1, u2, .pointer (some ⟨bx, 0, none⟩), u4, u5, u6, u7, u8, u9, u10, u11, u12, u13, u14, u15, u16, u17, u18, u19, u20, u21, u22, u23, u24, x25, x26, x27, x28, x29, x30, x31, x32, x33, x34, u35, u36, u37, u38, u39, u40, u41, u42, u43], defers := [] } W') (HS : Hid (AnSt w0 a len cap b w bx k nm a3 c3 l tx W)) (HS0 : Hid (S0.size ≤ 3)) :
    ∀ ops, Tryz.f46.body.bind (opsIn 9) = some ops → wpAnyH Tryz.prog .any ops Q (fun _ => True) 8 #[false, false, true, true, false, true, false, false, false, false, false] { tmps := #[.pointer (some ⟨b, 0, none⟩), u1, u2, .pointer (some ⟨bx, 0, none⟩), u4, u5, u6, u7, u8, u9, u10, u11, u12, u13, u14, u15, u16, u17, u18, u19, u20, u21, u22, u23, u24, u25, u26, .slice (some ⟨t2, 0, none⟩) 3 3, .string S0, u29, .pointer (some ⟨b, 0, none⟩), u31, u32, u33, u34, u35, u36, u37, u38, u39, u40, u41, u42, u43], defers := [] } W := by
  refine at_ops rfl ?_
  refine wpAnyH_ready (rs := [0, 6]) (by kernel_rfl) (by simp) (AllReadyH.cons rfl (fun K hK => ?_) (AllReadyH.cons rfl (fun K hK => ?_) AllReadyH.nil))
  · have HT0B := hid (show ¬ W.heap.size = b by have := HS.out.dst.cur.lt; omega)
    go_simp
    refine hK.out _ _ trivial (fun _ => ?_)
    clear hK K
    try simp only [Act.put, List.setIfInBounds_toArray, List.set_cons_zero, List.set_cons_succ]
    have HT0 := hid (heap_alloc_new W (.cells #[.int .u8 7] 5))
    replace HS := hid (HS.out.alloc (.cells #[.int .u8 7] 5))
    exact m7_023 hlen HR hP hQ HS HT0 HT0B HS0 _ rfl
  · go_simp
    refine (cBelow 3 w0 a len cap b _ hlen HR.out HS.out.dst.cur (by omega) (by omega)).mono ?_
    rintro e W2 ⟨x, rfl, hx, hC, hG⟩
    replace HS := hid (HS.out.draw hC hG)
    clear hC hG
    go_wp2_with fail
    refine hK.out _ _ trivial (fun _ => ?_)
    clear hK K
    try simp only [Act.put, List.setIfInBounds_toArray, List.set_cons_zero, List.set_cons_succ]
    exact m7_236 hlen HR hP hQ HS HS0 hx _ rfl

set_option maxRecDepth 8000 in
set_option maxHeartbeats 4000000 in
theorem m7_26 {w0 : World} {a : Option Addr} {len cap b : Nat} {w : World} {bx : Nat} {k : Int} {nm : ByteArray} {a3 : Option Addr} {c3 : Nat} {l : List At} {tx : ByteArray} {u1 u2 u4 u5 u6 u7 u8 u9 u10 u11 u12 u13 u14 u15 u16 u17 u18 u19 u20 u21 u22 u23 u24 u25 u26 u28 u29 u32 u33 u34 u35 u36 u37 u38 u39 u40 u41 u42 u43 : Value} {Q : Exit → Act → World → Prop} {W : World} {t2 : Nat} {x : Nat} (hlen : len ≤ 4096) (HR : Hid (CodeRow w0 a len)) (hP : ∀ x A W o v, Q (.panic x) (Act.put A o v) W → Q (.panic x) A W) (hQ : ∀ (tA : ByteArray) (x25 x26 x27 x28 x29 x30 x31 x32 x33 x34 : Value) (W' : World), tA.size ≤ 3 → AnSt w0 a len cap b w bx k nm a3 c3 l tA W' → Q .normal { tmps := #[.pointer (some ⟨b, 0, none⟩), u1, u2, .pointer (some ⟨bx, 0, none⟩), u4, u5, u6, u7, u8, u9, u10, u11, u12, u13, u14, u15, u16, u17, u18, u19, u20, u21, u22, u23, u24, x25, x26, x27, x28, x29, x30, x31, x32, x33, x34, u35, u36, u37, u38, u39, u40, u41, u42, u43], defers := [] } W') (HS : Hid (AnSt w0 a len cap b w bx k nm a3 c3 l tx W)) (HT2 : Hid (W.heap[t2]? = some (.cells #[.int .u8 0, .int .u8 0, .int .u8 0] 5))) (HT2B : Hid (¬ t2 = b)) (hx : x < 3) :
    ∀ ops, Tryz.f46.body.bind (opsIn 9) = some ops → wpAnyH Tryz.prog .any ops Q (fun _ => True) 8 #[false, false, true, false, false, true, true, false, false, false, false] { tmps := #[.pointer (some ⟨b, 0, none⟩), u1, u2, .pointer (some ⟨bx, 0, none⟩), u4, u5, u6, u7, u8, u9, u10, u11, u12, u13, u14, u15, u16, u17, u18, u19, u20, u21, u22, u23, u24, u25, u26, .slice (some ⟨t2, 0, none⟩) 3 3, u28, u29, .pointer (some ⟨b, 0, none⟩), .int .i64 (x : Int), u32, u33, u34, u35, u36, u37, u38, u39, u40, u41, u42, u43], defers := [] } W := by
  refine at_ops rfl ?_
  refine wpAnyH_ready (rs := [0, 3]) (by kernel_rfl) (by simp) (AllReadyH.cons rfl (fun K hK => ?_) (AllReadyH.cons rfl (fun K hK => ?_) AllReadyH.nil))
  · have HT0B := hid (show ¬ W.heap.size = b by have := HS.out.dst.cur.lt; omega)
    go_simp
    refine hK.out _ _ trivial (fun _ => ?_)
    clear hK K
    try simp only [Act.put, List.setIfInBounds_toArray, List.set_cons_zero, List.set_cons_succ]
    have HT0 := hid (heap_alloc_new W (.cells #[.int .u8 7] 5))
    replace HS := hid (HS.out.alloc (.cells #[.int .u8 7] 5))
    replace HT2 := hid (blk_alloc HT2.out (.cells #[.int .u8 7] 5))
    exact m7_026 hlen HR hP hQ HS HT0 HT0B HT2 HT2B hx _ rfl
  · have hr0 := conv0 W t2 HT2.out
    go_simp
    refine hK.out _ _ trivial (fun _ => ?_)
    clear hK K
    try simp only [Act.put, List.setIfInBounds_toArray, List.set_cons_zero, List.set_cons_succ]
    have HS0 := hid three_sz
    exact m7_236 hlen HR hP hQ HS HS0 hx _ rfl

set_option maxRecDepth 8000 in
set_option maxHeartbeats 4000000 in
theorem m7_2 {w0 : World} {a : Option Addr} {len cap b : Nat} {w : World} {bx : Nat} {k : Int} {nm : ByteArray} {a3 : Option Addr} {c3 : Nat} {l : List At} {tx : ByteArray} {u1 u2 u4 u5 u6 u7 u8 u9 u10 u11 u12 u13 u14 u15 u16 u17 u18 u19 u20 u21 u22 u23 u24 u25 u26 u28 u29 u31 u32 u33 u34 u35 u36 u37 u38 u39 u40 u41 u42 u43 : Value} {Q : Exit → Act → World → Prop} {W : World} {t2 : Nat} (hlen : len ≤ 4096) (HR : Hid (CodeRow w0 a len)) (hP : ∀ x A W o v, Q (.panic x) (Act.put A o v) W → Q (.panic x) A W) (hQ : ∀ (tA : ByteArray) (x25 x26 x27 x28 x29 x30 x31 x32 x33 x34 : Value) (W' : World), tA.size ≤ 3 → AnSt w0 a len cap b w bx k nm a3 c3 l tA W' → Q .normal { tmps := #[.pointer (some ⟨b, 0, none⟩), u1, u2, .pointer (some ⟨bx, 0, none⟩), u4, u5, u6, u7, u8, u9, u10, u11, u12, u13, u14, u15, u16, u17, u18, u19, u20, u21, u22, u23, u24, x25, x26, x27, x28, x29, x30, x31, x32, x33, x34, u35, u36, u37, u38, u39, u40, u41, u42, u43], defers := [] } W') (HS : Hid (AnSt w0 a len cap b w bx k nm a3 c3 l tx W)) (HT2 : Hid (W.heap[t2]? = some (.cells #[.int .u8 0, .int .u8 0, .int .u8 0] 5))) (HT2B : Hid (¬ t2 = b)) :
    ∀ ops, Tryz.f46.body.bind (opsIn 9) = some ops → wpAnyH Tryz.prog .any ops Q (fun _ => True) 9 #[false, false, true, false, false, true, false, false, false, false, false] { tmps := #[.pointer (some ⟨b, 0, none⟩), u1, u2, .pointer (some ⟨bx, 0, none⟩), u4, u5, u6, u7, u8, u9, u10, u11, u12, u13, u14, u15, u16, u17, u18, u19, u20, u21, u22, u23, u24, u25, u26, .slice (some ⟨t2, 0, none⟩) 3 3, u28, u29, .pointer (some ⟨b, 0, none⟩), u31, u32, u33, u34, u35, u36, u37, u38, u39, u40, u41, u42, u43], defers := [] } W := by
  refine at_ops rfl ?_
  refine wpAnyH_ready (rs := [0, 3, 6]) (by kernel_rfl) (by simp) (AllReadyH.cons rfl (fun K hK => ?_) (AllReadyH.cons rfl (fun K hK => ?_) (AllReadyH.cons rfl (fun K hK => ?_) AllReadyH.nil)))
  · have HT0B := hid (show ¬ W.heap.size = b by have := HS.out.dst.cur.lt; omega)
    go_simp
    refine hK.out _ _ trivial (fun _ => ?_)
    clear hK K
    try simp only [Act.put, List.setIfInBounds_toArray, List.set_cons_zero, List.set_cons_succ]
    have HT0 := hid (heap_alloc_new W (.cells #[.int .u8 7] 5))
    replace HS := hid (HS.out.alloc (.cells #[.int .u8 7] 5))
    replace HT2 := hid (blk_alloc HT2.out (.cells #[.int .u8 7] 5))
    exact m7_02 hlen HR hP hQ HS HT0 HT0B HT2 HT2B _ rfl
  · have hr0 := conv0 W t2 HT2.out
    go_simp
    refine hK.out _ _ trivial (fun _ => ?_)
    clear hK K
    try simp only [Act.put, List.setIfInBounds_toArray, List.set_cons_zero, List.set_cons_succ]
    have HS0 := hid three_sz
    exact m7_23 hlen HR hP hQ HS HS0 _ rfl
  · go_simp
    refine (cBelow 3 w0 a len cap b _ hlen HR.out HS.out.dst.cur (by omega) (by omega)).mono ?_
    rintro e W2 ⟨x, rfl, hx, hC, hG⟩
    replace HT2 := hid ((hG.block _ (lt_of_heap HT2.out) (fun e => HT2B.out (Option.some.inj e))).trans HT2.out)
    replace HS := hid (HS.out.draw hC hG)
    clear hC hG
    go_wp2_with fail
    refine hK.out _ _ trivial (fun _ => ?_)
    clear hK K
    try simp only [Act.put, List.setIfInBounds_toArray, List.set_cons_zero, List.set_cons_succ]
    exact m7_26 hlen HR hP hQ HS HT2 HT2B hx _ rfl

set_option maxRecDepth 8000 in
set_option maxHeartbeats 4000000 in
theorem m7_6 {w0 : World} {a : Option Addr} {len cap b : Nat} {w : World} {bx : Nat} {k : Int} {nm : ByteArray} {a3 : Option Addr} {c3 : Nat} {l : List At} {tx : ByteArray} {u1 u2 u4 u5 u6 u7 u8 u9 u10 u11 u12 u13 u14 u15 u16 u17 u18 u19 u20 u21 u22 u23 u24 u25 u26 u27 u28 u29 u32 u33 u34 u35 u36 u37 u38 u39 u40 u41 u42 u43 : Value} {Q : Exit → Act → World → Prop} {W : World} {x : Nat} (hlen : len ≤ 4096) (HR : Hid (CodeRow w0 a len)) (hP : ∀ x A W o v, Q (.panic x) (Act.put A o v) W → Q (.panic x) A W) (hQ : ∀ (tA : ByteArray) (x25 x26 x27 x28 x29 x30 x31 x32 x33 x34 : Value) (W' : World), tA.size ≤ 3 → AnSt w0 a len cap b w bx k nm a3 c3 l tA W' → Q .normal { tmps := #[.pointer (some ⟨b, 0, none⟩), u1, u2, .pointer (some ⟨bx, 0, none⟩), u4, u5, u6, u7, u8, u9, u10, u11, u12, u13, u14, u15, u16, u17, u18, u19, u20, u21, u22, u23, u24, x25, x26, x27, x28, x29, x30, x31, x32, x33, x34, u35, u36, u37, u38, u39, u40, u41, u42, u43], defers := [] } W') (HS : Hid (AnSt w0 a len cap b w bx k nm a3 c3 l tx W)) (hx : x < 3) :
    ∀ ops, Tryz.f46.body.bind (opsIn 9) = some ops → wpAnyH Tryz.prog .any ops Q (fun _ => True) 9 #[false, false, false, false, false, true, true, false, false, false, false] { tmps := #[.pointer (some ⟨b, 0, none⟩), u1, u2, .pointer (some ⟨bx, 0, none⟩), u4, u5, u6, u7, u8, u9, u10, u11, u12, u13, u14, u15, u16, u17, u18, u19, u20, u21, u22, u23, u24, u25, u26, u27, u28, u29, .pointer (some ⟨b, 0, none⟩), .int .i64 (x : Int), u32, u33, u34, u35, u36, u37, u38, u39, u40, u41, u42, u43], defers := [] } W := by
  refine at_ops rfl ?_
  refine wpAnyH_ready (rs := [0, 2]) (by kernel_rfl) (by simp) (AllReadyH.cons rfl (fun K hK => ?_) (AllReadyH.cons rfl (fun K hK => ?_) AllReadyH.nil))
  · have HT0B := hid (show ¬ W.heap.size = b by have := HS.out.dst.cur.lt; omega)
    go_simp
    refine hK.out _ _ trivial (fun _ => ?_)
    clear hK K
    try simp only [Act.put, List.setIfInBounds_toArray, List.set_cons_zero, List.set_cons_succ]
    have HT0 := hid (heap_alloc_new W (.cells #[.int .u8 7] 5))
    replace HS := hid (HS.out.alloc (.cells #[.int .u8 7] 5))
    exact m7_06 hlen HR hP hQ HS HT0 HT0B hx _ rfl
  · have HT2B := hid (show ¬ W.heap.size = b by have := HS.out.dst.cur.lt; omega)
    have hmk := mk3 W
    go_simp
    refine hK.out _ _ trivial (fun _ => ?_)
    clear hK K
    try simp only [Act.put, List.setIfInBounds_toArray, List.set_cons_zero, List.set_cons_succ]
    clear hmk
    have HT2 := hid (heap_alloc_new W (.cells #[.int .u8 0, .int .u8 0, .int .u8 0] 5))
    replace HS := hid (HS.out.alloc (.cells #[.int .u8 0, .int .u8 0, .int .u8 0] 5))
    exact m7_26 hlen HR hP hQ HS HT2 HT2B hx _ rfl

set_option maxRecDepth 8000 in
set_option maxHeartbeats 4000000 in
theorem m7_n {w0 : World} {a : Option Addr} {len cap b : Nat} {w : World} {bx : Nat} {k : Int} {nm : ByteArray} {a3 : Option Addr} {c3 : Nat} {l : List At} {tx : ByteArray} {u1 u2 u4 u5 u6 u7 u8 u9 u10 u11 u12 u13 u14 u15 u16 u17 u18 u19 u20 u21 u22 u23 u24 u25 u26 u27 u28 u29 u31 u32 u33 u34 u35 u36 u37 u38 u39 u40 u41 u42 u43 : Value} {Q : Exit → Act → World → Prop} {W : World} (hlen : len ≤ 4096) (HR : Hid (CodeRow w0 a len)) (hP : ∀ x A W o v, Q (.panic x) (Act.put A o v) W → Q (.panic x) A W) (hQ : ∀ (tA : ByteArray) (x25 x26 x27 x28 x29 x30 x31 x32 x33 x34 : Value) (W' : World), tA.size ≤ 3 → AnSt w0 a len cap b w bx k nm a3 c3 l tA W' → Q .normal { tmps := #[.pointer (some ⟨b, 0, none⟩), u1, u2, .pointer (some ⟨bx, 0, none⟩), u4, u5, u6, u7, u8, u9, u10, u11, u12, u13, u14, u15, u16, u17, u18, u19, u20, u21, u22, u23, u24, x25, x26, x27, x28, x29, x30, x31, x32, x33, x34, u35, u36, u37, u38, u39, u40, u41, u42, u43], defers := [] } W') (HS : Hid (AnSt w0 a len cap b w bx k nm a3 c3 l tx W)) :
    ∀ ops, Tryz.f46.body.bind (opsIn 9) = some ops → wpAnyH Tryz.prog .any ops Q (fun _ => True) 10 #[false, false, false, false, false, true, false, false, false, false, false] { tmps := #[.pointer (some ⟨b, 0, none⟩), u1, u2, .pointer (some ⟨bx, 0, none⟩), u4, u5, u6, u7, u8, u9, u10, u11, u12, u13, u14, u15, u16, u17, u18, u19, u20, u21, u22, u23, u24, u25, u26, u27, u28, u29, .pointer (some ⟨b, 0, none⟩), u31, u32, u33, u34, u35, u36, u37, u38, u39, u40, u41, u42, u43], defers := [] } W := by
  refine at_ops rfl ?_
  refine wpAnyH_ready (rs := [0, 2, 6]) (by kernel_rfl) (by simp) (AllReadyH.cons rfl (fun K hK => ?_) (AllReadyH.cons rfl (fun K hK => ?_) (AllReadyH.cons rfl (fun K hK => ?_) AllReadyH.nil)))
  · have HT0B := hid (show ¬ W.heap.size = b by have := HS.out.dst.cur.lt; omega)
    go_simp
    refine hK.out _ _ trivial (fun _ => ?_)
    clear hK K
    try simp only [Act.put, List.setIfInBounds_toArray, List.set_cons_zero, List.set_cons_succ]
    have HT0 := hid (heap_alloc_new W (.cells #[.int .u8 7] 5))
    replace HS := hid (HS.out.alloc (.cells #[.int .u8 7] 5))
    exact m7_0 hlen HR hP hQ HS HT0 HT0B _ rfl
  · have HT2B := hid (show ¬ W.heap.size = b by have := HS.out.dst.cur.lt; omega)
    have hmk := mk3 W
    go_simp
    refine hK.out _ _ trivial (fun _ => ?_)
    clear hK K
    try simp only [Act.put, List.setIfInBounds_toArray, List.set_cons_zero, List.set_cons_succ]
    clear hmk
    have HT2 := hid (heap_alloc_new W (.cells #[.int .u8 0, .int .u8 0, .int .u8 0] 5))
    replace HS := hid (HS.out.alloc (.cells #[.int .u8 0, .int .u8 0, .int .u8 0] 5))
    exact m7_2 hlen HR hP hQ HS HT2 HT2B _ rfl
  · go_simp
    refine (cBelow 3 w0 a len cap b _ hlen HR.out HS.out.dst.cur (by omega) (by omega)).mono ?_
    rintro e W2 ⟨x, rfl, hx, hC, hG⟩
    replace HS := hid (HS.out.draw hC hG)
    clear hC hG
    go_wp2_with fail
    refine hK.out _ _ trivial (fun _ => ?_)
    clear hK K
    try simp only [Act.put, List.setIfInBounds_toArray, List.set_cons_zero, List.set_cons_succ]
    exact m7_6 hlen HR hP hQ HS hx _ rfl

/-- The code of that region. -/
def regionIn (i : Nat) : Code → Option Code
  | .region id ops d => if id = i then some (.region id ops d) else none
  | .seq x y => match regionIn i x with
    | some c => some c
    | none => regionIn i y
  | .cond _ x y => match regionIn i x with
    | some c => some c
    | none => regionIn i y
  | .block _ x => regionIn i x
  | _ => none

theorem at_code {o : Option Code} {c' : Code} {P : Code → Prop} (h : o = some c') (H : P c') : ∀ c, o = some c → P c := fun c hc => by
  rw [h] at hc
  cases hc
  exact H

set_option maxRecDepth 8000 in
set_option maxHeartbeats 16000000 in
theorem any7_region (w0 : World) (a : Option Addr) (len cap b : Nat) (w : World) (bx : Nat) (k : Int) (nm : ByteArray) (a3 : Option Addr) (c3 : Nat) (l : List At) (tx : ByteArray) (u1 u2 u4 u5 u6 u7 u8 u9 u10 u11 u12 u13 u14 u15 u16 u17 u18 u19 u20 u21 u22 u23 u24 u25 u26 u27 u28 u29 u30 u31 u32 u33 u34 u35 u36 u37 u38 u39 u40 u41 u42 u43 : Value) (wq : World) (hlen : len ≤ 4096) (HR : Hid (CodeRow w0 a len)) (HS6 : Hid (AnSt w0 a len cap b w bx k nm a3 c3 l tx wq)) (Q : Exit → Act → World → Prop) (hP : ∀ x A W o v, Q (.panic x) (Act.put A o v) W → Q (.panic x) A W)
    (hQ : ∀ (tA : ByteArray) (x25 x26 x27 x28 x29 x30 x31 x32 x33 x34 : Value) (W' : World), tA.size ≤ 3 → AnSt w0 a len cap b w bx k nm a3 c3 l tA W' → Q .normal { tmps := #[.pointer (some ⟨b, 0, none⟩), u1, u2, .pointer (some ⟨bx, 0, none⟩), u4, u5, u6, u7, u8, u9, u10, u11, u12, u13, u14, u15, u16, u17, u18, u19, u20, u21, u22, u23, u24, x25, x26, x27, x28, x29, x30, x31, x32, x33, x34, u35, u36, u37, u38, u39, u40, u41, u42, u43], defers := [] } W') :
    ∀ c, Tryz.f46.body.bind (regionIn 9) = some c → c.wp Tryz.prog Q { tmps := #[.pointer (some ⟨b, 0, none⟩), u1, u2, .pointer (some ⟨bx, 0, none⟩), u4, u5, u6, u7, u8, u9, u10, u11, u12, u13, u14, u15, u16, u17, u18, u19, u20, u21, u22, u23, u24, u25, u26, u27, u28, u29, u30, u31, u32, u33, u34, u35, u36, u37, u38, u39, u40, u41, u42, u43], defers := [] } wq := by
  refine at_code rfl ?_
  refine wp_region_held_drew (S := fun _ => True) (by kernel_rfl) trivial (fun _ => ?_)
  have HS := hid (show AnSt w0 a len cap b w bx k nm a3 c3 l tx wq.drew from HS6.out.drewN 1)
  generalize wq.drew = W at *
  refine wpAnyH_take (i := 5) (v := ?_) rfl (by kernel_rfl) (by kernel_rfl) (by kernel_rfl) (fun _ _ _ h => hP _ _ _ _ _ h) (Or.inl ⟨by rfl, ?_⟩) trivial ?_
  rotate_left
  · intro w hSw
    go_simp
    try (with_reducible rfl)
  try simp only [Act.put, List.setIfInBounds_toArray, List.set_cons_zero, List.set_cons_succ]
  exact m7_n hlen HR hP hQ HS _ rfl

end Go.Proofs.YteninofjeidljaaGreat

namespace Go.Proofs.YteninofjeidljaaGreat

open Go.RowKit

set_option linter.unusedVariables false

set_option linter.unusedSimpArgs false

theorem tabN_at (w : World) (B x : Nat) (hx : x < 3) (h : w.heap[B]? = some (.cells #[.string ⟨#[]⟩, .string ⟨#[97, 58]⟩, .string ⟨#[49]⟩] 9)) : ∃ t : ByteArray, w.cell? ⟨B, x, none⟩ = some (.string t) ∧ t.size ≤ 3 := by
  rw [Lib.cell_of_heap (show w.heap[B]? = some (.cells #[.string ⟨#[]⟩, .string ⟨#[97, 58]⟩, .string ⟨#[49]⟩] 9 (0, 0)) from h)]
  rcases (show x = 0 ∨ x = 1 ∨ x = 2 from by omega) with rfl | rfl | rfl
  all_goals exact ⟨_, rfl, by decide⟩

set_option maxRecDepth 8000 in
set_option maxHeartbeats 16000000 in
theorem cDrawTokAny (w0 : World) (a : Option Addr) (len cap b : Nat) (w : World) (hlen : len ≤ 4096) (hcr : CodeRow w0 a len) (hC : Cur w0 a len cap b w) :
    Calls Tryz.prog 46 #[.pointer (some ⟨b, 0, none⟩)] w (DrawnTk w0 a len cap b w 6) := by
  have HR := hid hcr
  have HC := hid hC
  clear hcr hC
  have hbl : b < w.heap.size := by obtain ⟨i, h, _, _, hh⟩ := HC.out.2.2; exact lt_of_heap hh
  have hw0 := HC.out.2.1.size
  have HC1 := hid (HC.out.alloc (.cells #[.int .i64 0, .string ⟨#[]⟩, .slice none 0 0, .string ⟨#[]⟩] 49))
  have HG1 := hid (World.grownBy_alloc w (.cells #[.int .i64 0, .string ⟨#[]⟩, .slice none 0 0, .string ⟨#[]⟩] 49) (some b))
  have HM1 := hid (heap_alloc_new w (.cells #[.int .i64 0, .string ⟨#[]⟩, .slice none 0 0, .string ⟨#[]⟩] 49))
  obtain ⟨w1, hw1⟩ : ∃ w1, w.alloc (.cells #[.int .i64 0, .string ⟨#[]⟩, .slice none 0 0, .string ⟨#[]⟩] 49) = w1 := ⟨_, rfl⟩
  rw [hw1] at HC1 HG1 HM1
  have HW1 := hid hw1
  clear hw1
  go_enter Tryz.func46, Tryz.ntmps46
  go_wp2_with fail
  rw [HW1.out]
  refine (cDrawTok w0 a len cap b _ hlen HR.out HC1.out).mono ?_
  rintro e w2 ⟨⟨k, nm, l, tx⟩, a3, c3, rfl, hD2, hn2, hl2, hx2⟩
  simp only at hD2 hn2 hl2 hx2
  have hm2 := (hD2.gr.block w.heap.size (lt_of_heap HM1.out) (fun e => by have := Option.some.inj e; omega)).trans HM1.out
  have hD2' := hD2.from HG1.out hbl hw0
  have h12 := hD2.gr.size
  have h1l := lt_of_heap HM1.out
  have HS3 := hid (show AnSt w0 a len cap b w w2.heap.size k nm a3 c3 l tx (w2.alloc (.cells #[.int .i64 k, .string nm, .slice a3 l.length c3, .string tx] 49)) from
    ⟨hD2'.alloc _, heap_alloc_new w2 _, blk_alloc hm2 _, by omega, fun e => by have := (hD2.own.lt _ e).2; omega, fun e => by have := (hD2.own.lt _ e).1; omega⟩)
  clear hD2 hD2' hm2 h12 h1l HC1 HG1 HM1 HW1
  obtain ⟨bx, hbx⟩ : ∃ bx, w2.heap.size = bx := ⟨_, rfl⟩
  have HBX := hid hbx
  rw [hbx] at HS3
  clear hbx
  obtain ⟨L, hL⟩ : ∃ L, l.length = L := ⟨_, rfl⟩
  have HL := hid hL
  rw [show tkW (⟨k, nm, l, tx⟩ : Tk) a3 c3 = .agg #[.int .i64 k, .string nm, .slice a3 L c3, .string tx] by show Value.agg #[.int .i64 k, .string nm, .slice a3 l.length c3, .string tx] = _; rw [hL]]
  rw [hL] at hl2
  have HS4 := hid (show AnSt w0 a len cap b w bx k nm a3 c3 l tx (w2.alloc (.cells #[.int .i64 k, .string nm, .slice a3 L c3, .string tx] 49)) by rw [← HL.out]; exact HS3.out)
  clear hL HS3
  go_wp2_with fail
  rw [HBX.out]
  refine (cOnce 6 w0 a len cap b _ hlen HR.out HS4.out.dst.cur (by omega) (by omega)).mono ?_
  rintro e w3 ⟨q, rfl, hC3, hG3⟩
  have HS5 := hid (HS4.out.draw hC3 hG3)
  clear hC3 hG3 HS4 HBX
  go_upto_if 7 with fail
  go_cut [10] from 8 to 42 (fun v wv => ∃ (k : Int) (nm : ByteArray) (a3 : Option Addr) (c3 : Nat) (l : List At) (tx : ByteArray), Hid ((nm.size ≤ 7 ∧ l.length ≤ 6 ∧ tx.size ≤ 6) ∧ AnSt w0 a len cap b w bx k nm a3 c3 l tx wv))
  case first =>
    cases q with
    | false =>
      go_wp2_with fail
      go_meet
      exact ⟨k, nm, a3, c3, l, tx, ⟨hn2, by rw [HL.out]; omega, hx2⟩, HS5.out⟩
    | true =>
      go_wp2_with fail
      refine (cBelow 4 w0 a len cap b _ hlen HR.out HS5.out.dst.cur (by omega) (by omega)).mono ?_
      rintro e w5 ⟨j, rfl, hj, hC5, hG5⟩
      have HS6 := hid (HS5.out.draw hC5 hG5)
      clear hC5 hG5 HS5
      rcases (show j = 0 ∨ j = 1 ∨ j = 2 ∨ j = 3 from by omega) with rfl | rfl | rfl | rfl
      · go_wp2_with fail
        refine (cFromA (-1) 7 5 (by omega) (by omega) (by omega) (by omega) (by omega) w0 a len cap b _ hlen HR.out HS6.out.dst.cur).mono ?_
        rintro e w6 ⟨x, rfl, hx1, hx3, hC6, hG6⟩
        have HS7 := hid (HS6.out.draw hC6 hG6)
        have HF := hid (HS7.out.kind x)
        obtain ⟨⟨c0, c1, c2, c3'⟩, f0, f1, f2, f3⟩ := box4 HS7.out.box
        clear hC6 hG6 HS6 HS7
        go_wp2_with fail
        go_meet
        exact ⟨x, nm, a3, c3, l, tx, ⟨hn2, by rw [HL.out]; omega, hx2⟩, HF.out⟩
      · have HS7 := hid (HS6.out.alloc (.cells #[.string ⟨#[]⟩, .string ⟨#[97, 58]⟩, .string ⟨#[49]⟩] 9))
        have HT := hid (heap_alloc_new w5 (.cells #[.string ⟨#[]⟩, .string ⟨#[97, 58]⟩, .string ⟨#[49]⟩] 9))
        have HTB := hid (show ¬ w5.heap.size = b by have := HS6.out.dst.cur.lt; omega)
        go_wp2_with fail
        refine (cBelow 3 w0 a len cap b _ hlen HR.out HS7.out.dst.cur (by omega) (by omega)).mono ?_
        rintro e w6 ⟨x, rfl, hx, hC6, hG6⟩
        have HS8 := hid (HS7.out.draw hC6 hG6)
        have hT6 := (hG6.block _ (lt_of_heap HT.out) (fun e => HTB.out (Option.some.inj e))).trans HT.out
        obtain ⟨tN, hcN, htN⟩ := tabN_at w6 w5.heap.size x hx hT6
        have hxn : (x : Int) < 3 := by omega
        have HF := hid (HS8.out.name tN)
        obtain ⟨⟨c0, c1, c2, c3'⟩, f0, f1, f2, f3⟩ := box4 HS8.out.box
        clear hC6 hG6 HS6 HS7 HS8 HT hT6
        go_wp2_with fail
        go_meet
        exact ⟨k, tN, a3, c3, l, tx, ⟨by omega, by rw [HL.out]; omega, hx2⟩, HF.out⟩
      · go_upto_region 9 with fail
        refine any7_region w0 a len cap b w bx k nm a3 c3 l tx _ _ _ _ _ _ _ _ _ _ _ _ _ _ _ _ _ _ _ _ _ _ _ _ _ _ _ _ _ _ _ _ _ _ _ _ _ _ _ _ _ _ _ hlen HR HS6 _ (fun _ _ _ o _ h => by cases o <;> exact h) (fun tA _ _ _ _ _ _ _ _ _ _ W9 htA hF => ?_) _ rfl
        have HF := hid hF
        clear hF
        go_wp2_with fail
        go_meet
        exact ⟨k, nm, a3, c3, l, tA, ⟨hn2, by rw [HL.out]; omega, by omega⟩, HF.out⟩
      · have hown := HS6.out.dst.own
        rw [HL.out] at hown
        obtain ⟨⟨c0, c1, c2, c3'⟩, f0, f1, f2, f3⟩ := box4 HS6.out.box
        rw [HL.out] at c2
        rcases hown.2 with ⟨hnil, h0⟩ | ⟨g, cp, cur, hv, hg, hh, hn', hc', hs', ht'⟩
        · obtain ⟨rfl, rfl⟩ : a3 = none ∧ c3 = 0 := by injection hnil with h1 _ h3; exact ⟨h1, h3⟩
          subst h0
          have HF := hid (show AnSt w0 a len cap b w bx k nm none 0 l tx (w5.setCell ⟨bx, 2, none⟩ (.slice none 0 0)) from by
            have h := HS6.out
            have hb := h.box
            rw [HL.out] at hb
            refine ⟨h.dst.set (Nat.le_of_lt h.hi) h.ne 2 _, ?_, (heap_setCell_other w5 ⟨bx, 2, none⟩ w.heap.size _ (by show ¬ w.heap.size = bx; have := h.hi; omega)).trans h.res, h.hi, h.ne, h.ner⟩
            rw [HL.out]
            exact heap_setCell_same w5 bx 2 _ _ _ hb)
          clear hown
          go_wp2_with fail
          go_meet
          exact ⟨k, nm, none, 0, l, tx, ⟨hn2, by rw [HL.out]; omega, hx2⟩, HF.out⟩
        · obtain ⟨rfl, rfl⟩ : a3 = some ⟨g, 0, none⟩ ∧ c3 = cp := by injection hv with h1 _ h3; exact ⟨h1, h3⟩
          obtain ⟨i0, hi, hz0, hz1, hz2⟩ := info_parts infoAtW
          have HOW := hid hown
          have HCL := hid (fun j u (h : (atC l)[j]? = some u) => hown.cells (g := g) rfl j u h)
          have HONE := hid (atC_one l)
          have hln : (atC l).length = L * 2 := by rw [atC_len, HL.out]
          have hsz := HS6.out.dst.gr.size
          clear hh hs' ht' hown hv
          go_wp2_with (at_builtin; refine wpList_append_own _ rfl _ _ 40 rfl w.heap.size 114 i0 _ 2 32 Tryz.underlying40 hi hz0 hz1 hz2 rfl (by decide) _ _ _ rfl HOW.out ⟨g, 0, none⟩ L c3 (atC l) rfl hln HCL.out HONE.out (by unfold maxLen; omega) (by omega) hsz ?_)
          intro v7 w7 hown7 hgrow7 _
          obtain ⟨a7, c7, hv7⟩ := own_len hown7
          subst hv7
          have HF := hid (HS6.out.double (by rw [HL.out]; exact hown7) (by rw [HL.out]; exact hgrow7))
          obtain ⟨⟨d0, d1, d2, d3⟩, g0, g1, g2, g3⟩ := box4 HF.out.1
          have HL2 := hid (show (l ++ l).length = L + L by rw [List.length_append, HL.out])
          rw [HL.out] at HF
          clear hown7 hgrow7 HS6 HOW HCL
          go_wp2_with fail
          go_meet
          exact ⟨k, nm, a7, c7, l ++ l, tx, ⟨hn2, by rw [HL2.out]; omega, hx2⟩, HF.out.2⟩
  clear HS5 hn2 hx2 hl2 HL
  obtain ⟨k, nm, a3, c3, l, tx, HX⟩ := hcut
  have HS9 := hid HX.out.2
  obtain ⟨⟨c0, c1, c2, c3'⟩, -⟩ := box4 HS9.out.box
  obtain ⟨⟨d0, d1, d2, d3⟩, g0, g1, g2, g3⟩ := box4 HS9.out.res
  obtain ⟨L, hL⟩ : ∃ L, l.length = L := ⟨_, rfl⟩
  have HL := hid hL
  rw [hL] at c2
  clear hL
  have HNR := hid (show ¬ (Value.slice a3 L c3).ownBlock = some w.heap.size by have := HS9.out.ner; rw [HL.out] at this; exact this)
  have HDD := hid (show DSt w0 a len cap b w wc (.slice a3 L c3) l by have := HS9.out.dst; rw [HL.out] at this; exact this)
  have HDF := hid ((((HDD.out.set (Nat.le_refl _) HNR.out 0 (.int .i64 k)).set (Nat.le_refl _) HNR.out 1 (.string nm)).set (Nat.le_refl _) HNR.out 2 (.slice a3 L c3)).set (Nat.le_refl _) HNR.out 3 (.string tx))
  have hbw := HS9.out.hi
  go_wp2_with fail
  refine bodyPost_ret (v := .agg #[.int .i64 k, .string nm, .slice a3 L c3, .string tx]) (by simp [results, Tryz.results46, go_sem, d0, d1, d2, d3]) rfl ?_
  exact ⟨⟨k, nm, l, tx⟩, a3, c3, by show _ = Ending.returned (.agg #[.int .i64 k, .string nm, .slice a3 l.length c3, .string tx]); rw [HL.out], by show DSt _ _ _ _ _ _ _ (.slice a3 l.length c3) l; rw [HL.out]; exact HDF.out, HX.out.1.1, HX.out.1.2.1, HX.out.1.2.2⟩

end Go.Proofs.YteninofjeidljaaGreat

namespace Go.Proofs.YteninofjeidljaaGreat

open Go.RowKit

set_option linter.unusedVariables false

set_option linter.unusedSimpArgs false

theorem cBelowAnyV (n : Nat) (w0 : World) (a : Option Addr) (len cap b : Nat) (w : World) (hlen : len ≤ 4096) (hcr : CodeRow w0 a len) (hC : Cur w0 a len cap b w) (hn0 : 1 ≤ n) (hn1 : n ≤ 4294967296) :
    Calls Tryz.prog 45 #[.pointer (some ⟨b, 0, none⟩), .int .i64 n] w fun e w' => ∃ x : Nat, e = .returned (.int .i64 x) ∧ x < n ∧ Cur w0 a len cap b w' ∧ w.grownBy w' (some b) := by
  by_cases h : n ≤ 256
  · exact cBelow n w0 a len cap b w hlen hcr hC hn0 h
  · exact cBelowBig n w0 a len cap b w hlen hcr hC (by omega) hn1

/-- A ! or a -, as a number. -/
def oddI (x : Int) : Bool := !cleanB (UInt8.ofNat x.toNat)

/-- How many of them. -/
def cntB (s : ByteArray) : Nat := s.data.toList.countP fun c => !cleanB c

/-- A slice of bytes of the call's own, with at most so many of them. -/
def RowV (B b : Nat) (w : World) (v : Value) (n C : Nat) : Prop :=
  ∃ g cap, ∃ xs : List Int, v = .slice (some ⟨g, 0, none⟩) n cap ∧ B ≤ g ∧ g < w.heap.size ∧ g ≠ b ∧ n ≤ cap ∧ cap ≤ maxLen ∧ xs.length = n ∧
    (∀ j, j < n → w.cell? ⟨g, j, none⟩ = some (.int .u8 (xs.getD j 0))) ∧ (∀ j, j < n → w.frozen? ⟨g, j, none⟩ = false) ∧ xs.countP oddI ≤ C

theorem RowV.kept {B b : Nat} {w w1 : World} {v : Value} {n C : Nat} (h : RowV B b w v n C) (g1 : w.grownBy w1 (some b)) : RowV B b w1 v n C := by
  obtain ⟨g, cap, xs, hv, hB, hlt, hne, hn, hm, hx, hc, hf, hC⟩ := h
  have hb := g1.block g hlt (by simpa using hne)
  exact ⟨g, cap, xs, hv, hB, Nat.lt_of_lt_of_le hlt g1.size, hne, hn, hm, hx, fun j hj => (World.cell?_of_block (a := ⟨g, j, none⟩) hb).trans (hc j hj), fun j hj => (World.frozen?_of_block (a := ⟨g, j, none⟩) hb).trans (hf j hj), hC⟩

theorem RowV.of_own {B b : Nat} {w : World} {v : Value} {n C : Nat} {zs : List Int} (h : w.ownsRow B 5 1 v n (zs.map (Value.int .u8))) (hnn : v ≠ .slice none 0 0) (hb : v.ownBlock ≠ some b) (hC : zs.countP oddI ≤ C) : RowV B b w v n C := by
  have hl := h.1
  rcases h.2 with ⟨h0, _⟩ | ⟨g, cap, cur, hv, hB, hh, hn, hm, hcs, ht⟩
  · exact absurd h0 hnn
  · have hb' : g ≠ b := by
      intro e
      rw [hv] at hb
      exact hb (by simp [Value.ownBlock, e])
    have hl' : zs.length = n := by simpa using hl
    refine ⟨g, cap, zs, hv, hB, lt_of_heap hh, hb', hn, hm, hl', fun j hj => ?_, fun j hj => Lib.frozen_of_heap hh j, hC⟩
    have := h.cells (g := g) (by rw [hv]; rfl) j (.int .u8 (zs.getD j 0)) (by
      have hj' : j < zs.length := by omega
      simp [List.getD, hj'])
    have hplain : (⟨g, 0, none⟩ : Addr).add j = ⟨g, j, none⟩ := by unfold Addr.add; split <;> simp_all
    rw [hplain] at this
    exact this

theorem count_set (l : List Int) (k : Nat) (c : Int) : (l.set k c).countP oddI ≤ l.countP oddI + 1 := by
  induction l generalizing k with
  | nil => simp
  | cons x r ih =>
    cases k with
    | zero =>
      rw [List.set_cons_zero, List.countP_cons, List.countP_cons]
      split <;> split <;> omega
    | succ k =>
      rw [List.set_cons_succ, List.countP_cons, List.countP_cons]
      have := ih k
      omega

theorem RowV.set {B b g cap n C : Nat} {w : World} {xs : List Int} (hB : B ≤ g) (hlt : g < w.heap.size) (hne : g ≠ b) (hn : n ≤ cap) (hm : cap ≤ maxLen) (hx : xs.length = n)
    (hc : ∀ j, j < n → w.cell? ⟨g, j, none⟩ = some (.int .u8 (xs.getD j 0))) (hf : ∀ j, j < n → w.frozen? ⟨g, j, none⟩ = false) (hC : xs.countP oddI ≤ C) (k : Nat) (hk : k < n) (c : Int) :
    RowV B b (w.setCell ⟨g, k, none⟩ (.int .u8 c)) (.slice (some ⟨g, 0, none⟩) n cap) n (C + 1) := by
  refine ⟨g, cap, xs.set k c, rfl, hB, by simpa [World.setCell] using hlt, hne, hn, hm, by simpa using hx, fun j hj => ?_, fun j hj => ?_, ?_⟩
  · by_cases h : j = k
    · subst h
      rw [World.cell?_setCell_same _ _ _ (by rw [hc j hj])]
      simp [List.getD, List.getElem?_set, hx, hk]
    · rw [World.cell?_setCell_other _ _ _ _ (by simp [Ne.symm h]), hc j hj]
      simp [List.getD, List.getElem?_set, Ne.symm h]
  · rw [World.frozen?_setCell]
    exact hf j hj
  · have := count_set xs k c
    omega

theorem RowV.cut {B b : Nat} {w : World} {n C g cap : Nat} (h : RowV B b w (.slice (some ⟨g, 0, none⟩) n cap) n C) (k : Nat) (hk : k ≤ n) : RowV B b w (.slice (some ⟨g, 0, none⟩) k cap) k C := by
  obtain ⟨g', cap', xs, hv, hB, hlt, hne, hn, hm, hx, hc, hf, hC⟩ := h
  injection hv with e1 e2 e3
  injection e1 with e1
  injection e1 with e1
  subst e1 e3
  refine ⟨g, cap, xs.take k, rfl, hB, hlt, hne, by omega, hm, by simp; omega, fun j hj => ?_, fun j hj => hf j (by omega), Nat.le_trans (List.Sublist.countP_le (List.take_sublist k xs)) hC⟩
  rw [hc j (by omega)]
  simp [List.getD, List.getElem?_take, hj]

theorem RowV.mono {B B1 b : Nat} {w : World} {v : Value} {n C : Nat} (h : RowV B b w v n C) (hB : B1 ≤ B) : RowV B1 b w v n C := by
  obtain ⟨g, cap, xs, hv, hg, r⟩ := h
  exact ⟨g, cap, xs, hv, Nat.le_trans hB hg, r⟩

theorem odd_byte (x : UInt8) : oddI (x.toNat : Int) = !cleanB x := by
  unfold oddI
  have : UInt8.ofNat ((x.toNat : Int)).toNat = x := by simp
  rw [this]

theorem count_bytes (l : List UInt8) : (l.map fun x => (x.toNat : Int)).countP oddI = l.countP fun c => !cleanB c := by
  rw [List.countP_map]
  congr 1
  funext x
  exact odd_byte x

theorem count_del (xs : List Int) (k : Nat) : (xs.take k ++ xs.drop (k + 1)).countP oddI ≤ xs.countP oddI := by
  have h : (xs.take k ++ xs.drop k).countP oddI = xs.countP oddI := by rw [List.take_append_drop]
  rw [List.countP_append] at h ⊢
  have : (xs.drop (k + 1)).countP oddI ≤ (xs.drop k).countP oddI := by
    rw [← List.drop_drop]
    exact List.Sublist.countP_le (List.drop_sublist _ _)
  omega

theorem count_ins (xs : List Int) (k : Nat) (c : Int) : (xs.take k ++ [c] ++ xs.drop k).countP oddI ≤ xs.countP oddI + 1 := by
  have h : (xs.take k ++ xs.drop k).countP oddI = xs.countP oddI := by rw [List.take_append_drop]
  rw [List.countP_append] at h
  rw [List.countP_append, List.countP_append, List.countP_cons, List.countP_nil]
  split <;> omega

theorem count_str (xs : List Int) : cntB (strOfNums xs) = xs.countP oddI := by
  unfold cntB
  rw [show (strOfNums xs).data.toList = xs.map (fun x => UInt8.ofNat x.toNat) by simp [strOfNums], List.countP_map]
  rfl

set_option maxRecDepth 8000 in
set_option maxHeartbeats 4000000 in
theorem cBendV (s signs : ByteArray) (w0 : World) (a : Option Addr) (len cap b : Nat) (w : World) (hs : s.size ≤ 2000000000) (hg0 : 1 ≤ signs.size) (hg1 : signs.size ≤ 256) (hlen : len ≤ 4096) (hcr : CodeRow w0 a len) (hC : Cur w0 a len cap b w) :
    Calls Tryz.prog 50 #[.pointer (some ⟨b, 0, none⟩), .string s, .string signs] w fun e w' => ∃ t : ByteArray, e = .returned (.string t) ∧ (t.size ≤ s.size + 2 ∧ cntB t ≤ cntB s + 2) ∧ Cur w0 a len cap b w' ∧ w.grownBy w' (some b) := by
  obtain ⟨i0, hi, hz0, hz1, hz2⟩ := info_parts info5d
  have HR : Hid (CodeRow w0 a len) := hcr
  have HC : Hid (Cur w0 a len cap b w) := hC
  clear hC hcr
  have hconv := run_bytes_of_string (P := Tryz.prog) w 9 22 5 s Tryz.underlying9 Tryz.underlying22 Tryz.underlying5
  obtain ⟨w1, hw1⟩ : ∃ w1, w1 = (w.drew.alloc (.cells (bytesRow s (grownCap w s.size 0 5)) 5 ((bytesRow s (grownCap w s.size 0 5)).size, (bytesRow s (grownCap w s.size 0 5)).size + 1))) := ⟨_, rfl⟩
  obtain ⟨cp, hcp⟩ : ∃ cp, cp = grownCap w s.size 0 5 := ⟨_, rfl⟩
  rw [← hw1, ← hcp] at hconv
  have hcl : s.size ≤ cp := by rw [hcp]; exact grownCap_ge _ _ _ _
  have hcm : cp ≤ maxLen := by rw [hcp]; exact grownCap_le_maxLen _ _ _ _ (by unfold maxLen; omega)
  have HRow : Hid (RowV w.heap.size b w1 (.slice (some ⟨w.heap.size, 0, none⟩) s.size cp) s.size (cntB s)) := by
    have hh : w1.heap[w.heap.size]? = some (.cells (bytesRow s cp) 5 ((bytesRow s cp).size, (bytesRow s cp).size + 1)) := by rw [hw1, ← hcp]; exact heap_alloc_new w.drew _
    have hbl : b < w.heap.size := HC.out.lt
    have hbs : (bytesRow s cp).size = cp := by
      have : s.data.size = s.size := rfl
      simp [bytesRow]; omega
    refine ⟨w.heap.size, cp, s.data.toList.map fun x => (x.toNat : Int), rfl, Nat.le_refl _, lt_of_heap hh, by omega, hcl, hcm, by simp, fun j hj => ?_, fun j hj => ?_, by rw [count_bytes]; exact Nat.le_refl _⟩
    · have hj' : j < s.data.size := hj
      rw [Lib.cell_of_heap hh]
      simp [bytesRow, List.getD, hj', hj, Array.getElem?_append]
    · have : ¬ (bytesRow s cp).size ≤ j := by omega
      simp [World.frozen?, hh, this]
  have HC1 : Hid (Cur w0 a len cap b w1) := by rw [hw1]; exact Cur.alloc (w := w.drew) (HC.out.drewN 1) _
  have HG1 : Hid (w.grownBy w1 (some b)) := by
    rw [hw1]
    have gg := World.grownBy_alloc w.drew (.cells (bytesRow s (grownCap w s.size 0 5)) 5 ((bytesRow s (grownCap w s.size 0 5)).size, (bytesRow s (grownCap w s.size 0 5)).size + 1)) (some b)
    exact ⟨gg.os, gg.tape, gg.output, gg.size, gg.block⟩
  clear hw1 hcp hcl hcm
  go_enter Tryz.func50, Tryz.ntmps50
  go_wp2_with (go_at_call 45; refine (cBelow 3 w0 a len cap b _ hlen HR.out HC1.out (by decide) (by decide)).mono ?_; rintro e w2 ⟨x0, rfl, hx0, hC2, hG2⟩)
  have HC2 : Hid (Cur w0 a len cap b w2) := hC2
  have HG2 : Hid (w.grownBy w2 (some b)) := gtrans HG1.out hG2
  have HR2 : Hid (RowV w.heap.size b w2 (.slice (some ⟨w.heap.size, 0, none⟩) s.size cp) s.size (cntB s)) := HRow.out.kept hG2
  clear hC2 hG2 hconv HRow HC1 HG1
  go_loopw [7, 8] (fun v n wr => ∃ m L C : Nat, n = .int .i64 m ∧ m ≤ 2 ∧ L + m ≤ s.size + 2 ∧ C + m ≤ cntB s + 2 ∧ RowV w.heap.size b wr v L C ∧ Cur w0 a len cap b wr ∧ w.grownBy wr (some b)) (fun _ n _ => (intOf n).toNat)
  case atStart => exact ⟨x0, s.size, cntB s, rfl, by omega, by omega, by omega, HR2.out, HC2.out, HG2.out⟩
  case round =>
    obtain ⟨m, L, C, rfl, hm, hL, hCC, hRow, hCr, hGr⟩ := hrel
    have HRr : Hid (RowV w.heap.size b wr u7 L C) := hRow
    obtain ⟨g, cap', xs, rfl, hgB, hgl, hgb, hLc, hcm, hxl, hcell, hfr, hcnt⟩ := hRow
    have HCNT := hid hcnt
    clear hcnt
    have HCr : Hid (Cur w0 a len cap b wr) := hCr
    have HGr : Hid (w.grownBy wr (some b)) := hGr
    clear hCr hGr
    by_cases hgo : 0 < m ∧ 0 < L
    · obtain ⟨hm0, hL0⟩ := hgo
      have hLb : decide ((0 : Int) < (L : Int)) = true := by simp; omega
      have hmb : decide ((0 : Int) < (m : Int)) = true := by simp; omega
      go_wp2_with fail
      refine (cBelowAnyV L w0 a len cap b _ hlen HR.out HCr.out (by omega) (by omega)).mono ?_
      rintro e w3 ⟨k, rfl, hk, hC3, hG3⟩
      go_wp2_with fail
      refine (cBelow 4 w0 a len cap b _ hlen HR.out hC3 (by decide) (by decide)).mono ?_
      rintro e w4 ⟨q, rfl, hq, hC4, hG4⟩
      have HC4 : Hid (Cur w0 a len cap b w4) := hC4
      have HG4 : Hid (wr.grownBy w4 (some b)) := gtrans hG3 hG4
      clear hC3 hG3 hC4 hG4 hLb hmb
      rcases (show q = 0 ∨ q = 1 ∨ q = 2 ∨ q = 3 from by omega) with rfl | rfl | rfl | rfl
      · go_wp2_with fail
        refine (cBelow signs.size w0 a len cap b _ hlen HR.out HC4.out hg0 hg1).mono ?_
        rintro e w5 ⟨y, rfl, hy, hC5, hG5⟩
        have hblk := (gtrans HG4.out hG5).block g hgl (by simpa using hgb)
        have hG : w.grownBy w5 (some b) := gtrans HGr.out (gtrans HG4.out hG5)
        have hc5 : ∀ j, j < L → w5.cell? ⟨g, j, none⟩ = some (.int .u8 (xs.getD j 0)) := fun j hj => (World.cell?_of_block (a := ⟨g, j, none⟩) hblk).trans (hcell j hj)
        have hf5 : ∀ j, j < L → w5.frozen? ⟨g, j, none⟩ = false := fun j hj => (World.frozen?_of_block (a := ⟨g, j, none⟩) hblk).trans (hfr j hj)
        have hg5 : g < w5.heap.size := Nat.lt_of_lt_of_le hgl (Nat.le_trans HG4.out.size hG5.size)
        have R := RowV.set (B := w.heap.size) (b := b) (w := w5) hgB hg5 hgb hLc hcm hxl hc5 hf5 HCNT.out k hk
        have HRn : Hid (∀ c, RowV w.heap.size b (w5.setCell ⟨g, k, none⟩ (.int .u8 c)) (.slice (some ⟨g, 0, none⟩) L cap') L (C + 1)) := R
        have HCn : Hid (∀ c : Int, Cur w0 a len cap b (w5.setCell ⟨g, k, none⟩ (.int .u8 c))) := fun c => hC5.grown (Lib.grownBy_setCell w5 g k _) (by simpa using fun e : b = g => hgb e.symm) (fun x hx => by have := HCr.out.size; have := HGr.out.size; have := HC.out.size; simp at hx; omega)
        have HGn : Hid (∀ c : Int, w.grownBy (w5.setCell ⟨g, k, none⟩ (.int .u8 c)) (some b)) := fun c => g_row hG (Lib.grownBy_setCell w5 g k _) (fun x hx => by simp at hx; omega)
        have ck := hc5 k hk
        have fk := hf5 k hk
        clear hblk hG hc5 hf5 R hC5 hG5 hcell hfr
        go_wp2
        go_roundw
        case rel => exact ⟨m - 1, L, C + 1, by go_num, by omega, by omega, by omega, HRn.out _, HCn.out _, HGn.out _⟩
        case measure => simp [intOf]; omega
      · have HRn : Hid (RowV w.heap.size b w4 (.slice (some ⟨g, 0, none⟩) k cap') k C) := (HRr.out.kept HG4.out).cut k (by omega)
        have HGn : Hid (w.grownBy w4 (some b)) := gtrans HGr.out HG4.out
        have hcz : ¬ cap' = 0 := by omega
        have hkc : (k : Int) ≤ (cap' : Int) := by omega
        clear hcell hfr
        go_wp2
        go_roundw
        case rel => exact ⟨m - 1, k, C, by go_num, by omega, by omega, by omega, HRn.out, HC4.out, HGn.out⟩
        case measure => simp [intOf]; omega
      · have hcz : ¬ cap' = 0 := by omega
        have hwr : IntKind.i64.wrap ((k : Int) + 1) = (k : Int) + 1 := IntWalk.i64_in _ (by omega)
        have hs3 := sl_pre g L cap' k (by omega) hcz
        obtain ⟨A, hA, hAj⟩ := suf_addr g L cap' (k + 1) hLc
        have hs8 : ∀ W, (Instr.slice 22 (.slice (some ⟨g, 0, none⟩) L cap') (some (.int .i64 ((k : Int) + 1))) none none).run Tryz.prog W = .ok (.slice (some A) (L - (k + 1)) (cap' - (k + 1))) W := fun W => by
          have := sl_suf g L cap' (k + 1) (by omega) hLc W
          rw [hA] at this
          exact this
        have hblk := HG4.out.block g hgl (by simpa using hgb)
        have hg4 : g < w4.heap.size := Nat.lt_of_lt_of_le hgl HG4.out.size
        have hw4 : w.heap.size ≤ w4.heap.size := Nat.le_trans HGr.out.size HG4.out.size
        have hcb : ∀ j, j < L → (bare w4).cell? ⟨g, j, none⟩ = some (.int .u8 (xs.getD j 0)) := fun j hj => by
          rw [cell_bare w4 g j hg4]; exact (World.cell?_of_block (a := ⟨g, j, none⟩) hblk).trans (hcell j hj)
        have HO0 : Hid ((bare w4).ownsRow w.heap.size 5 1 (.slice (some ⟨w4.heap.size, 0, none⟩) 0 0) 0 []) := own_bare w4 _ hw4
        have HS1 : Hid (∀ j u, ((xs.take k).map (Value.int .u8))[j]? = some u → (bare w4).cell? ((⟨g, 0, none⟩ : Addr).add j) = some u) := src_pre hxl (by omega) hcb
        have HCB : Hid (∀ j, j < L → (bare w4).cell? ⟨g, j, none⟩ = some (.int .u8 (xs.getD j 0))) := hcb
        have HAj : Hid (∀ j, j < L - (k + 1) → A.add j = ⟨g, (k + 1) + j, none⟩) := hAj
        have hl1 : ((xs.take k).map (Value.int .u8)).length = k * 1 := by simp; omega
        have hl2 : ((xs.drop (k + 1)).map (Value.int .u8)).length = (L - (k + 1)) * 1 := by simp; omega
        clear hcell hfr hblk hcb hAj hA
        go_wp2
        go_region_law (first
          | (refine step_append_own rfl (.tmp 47) (.tmp 50) 22 rfl w.heap.size 5 i0 (.int .u8 0) 1 1 Tryz.underlying22 hi hz0 hz1 hz2 rfl (by decide) (.slice (some ⟨w4.heap.size, 0, none⟩) 0 0) 0 [] (by simp [Act.eval, Act.put]) HO0.out ⟨g, 0, none⟩ k cap' ((xs.take k).map (Value.int .u8)) (by simp [Act.eval, Act.put]) hl1 HS1.out (ints_one _) (by unfold maxLen; omega) (by omega) (by simp [bare]; omega) ?_; intro v1 W1 hown1 hgrow1 hnil1)
          | (refine step_append_own rfl (.tmp 51) (.tmp 55) 22 rfl w.heap.size 5 i0 (.int .u8 0) 1 1 Tryz.underlying22 hi hz0 hz1 hz2 rfl (by decide) v1 (0 + k) ([] ++ (xs.take k).map (Value.int .u8)) (by simp [Act.eval, Act.put]) hown1 A (L - (k + 1)) (cap' - (k + 1)) ((xs.drop (k + 1)).map (Value.int .u8)) (by simp [Act.eval, Act.put]) hl2 (src_suf hxl HAj.out (cell_grown HO0.out hgrow1 (by simp [bare]; omega) (by simp [Value.ownBlock]; omega) HCB.out)) (ints_one _) (by unfold maxLen; omega) (by omega) (Nat.le_trans (show w.heap.size ≤ (bare w4).heap.size by simp [bare]; omega) hgrow1.size) ?_; intro v2 W2 hown2 hgrow2 hnil2))
        have hw0 : w0.heap.size ≤ w.heap.size := HC.out.size
        have hbl : b < w4.heap.size := HC4.out.lt
        have C1 := HC4.out.bare.grown hgrow1 (by simp [Value.ownBlock]; omega) (own_ge (w1 := W1) HO0.out hw0)
        have C2 := C1.grown hgrow2 (fun e => (C1.ne hown1) e.symm) (own_ge (w1 := W2) hown1 hw0)
        have G1 := g_row (gtrans HGr.out HG4.out) (grown_bare w4 none) (by simp)
        have G2 := g_row (g_row G1 hgrow1 (own_ge (w1 := W1) HO0.out (Nat.le_refl _))) hgrow2 (own_ge (w1 := W2) hown1 (Nat.le_refl _))
        have nn1 : v1 ≠ .slice none 0 0 := fun e => by simpa using (hnil1.1 e).1
        have nn2 : v2 ≠ .slice none 0 0 := fun e => nn1 (hnil2.1 e).1
        have R : RowV w.heap.size b W2 v2 (L - 1) C := by
          refine RowV.of_own (zs := xs.take k ++ xs.drop (k + 1)) ?_ nn2 (C2.ne hown2) (Nat.le_trans (count_del xs k) HCNT.out)
          have e1 : 0 + k + (L - (k + 1)) = L - 1 := by omega
          rw [← e1, List.map_append]
          exact hown2
        have HRn : Hid (RowV w.heap.size b W2 v2 (L - 1) C) := R
        have HCn : Hid (Cur w0 a len cap b W2) := C2
        have HGn : Hid (w.grownBy W2 (some b)) := G2
        clear R C1 C2 G1 G2 nn1 nn2 hown1 hown2 hgrow1 hgrow2 hnil1 hnil2 hs3 hs8 hwr HO0 HS1 HCB HAj hl1 hl2
        go_wp2
        go_roundw
        case rel => exact ⟨m - 1, L - 1, C, by go_num, by omega, by omega, by omega, HRn.out, HCn.out, HGn.out⟩
        case measure => simp [intOf]; omega
      · have hcz : ¬ cap' = 0 := by omega
        have hs3 := sl_pre g L cap' k (by omega) hcz
        obtain ⟨A, hA, hAj⟩ := suf_addr g L cap' k hLc
        have hs8 : ∀ W, (Instr.slice 22 (.slice (some ⟨g, 0, none⟩) L cap') (some (.int .i64 (k : Int))) none none).run Tryz.prog W = .ok (.slice (some A) (L - k) (cap' - k)) W := fun W => by
          have := sl_suf g L cap' k (by omega) hLc W
          rw [hA] at this
          exact this
        have hblk := HG4.out.block g hgl (by simpa using hgb)
        have hg4 : g < w4.heap.size := Nat.lt_of_lt_of_le hgl HG4.out.size
        have hw4 : w.heap.size ≤ w4.heap.size := Nat.le_trans HGr.out.size HG4.out.size
        have hw0 : w0.heap.size ≤ w.heap.size := HC.out.size
        have hbl : b < w4.heap.size := HC4.out.lt
        have hcb : ∀ j, j < L → (bare w4).cell? ⟨g, j, none⟩ = some (.int .u8 (xs.getD j 0)) := fun j hj => by
          rw [cell_bare w4 g j hg4]; exact (World.cell?_of_block (a := ⟨g, j, none⟩) hblk).trans (hcell j hj)
        have HO0 : Hid ((bare w4).ownsRow w4.heap.size 5 1 (.slice (some ⟨w4.heap.size, 0, none⟩) 0 0) 0 []) := own_bare w4 _ (Nat.le_refl _)
        have HS1 : Hid (∀ j u, ((xs.take k).map (Value.int .u8))[j]? = some u → (bare w4).cell? ((⟨g, 0, none⟩ : Addr).add j) = some u) := src_pre hxl (by omega) hcb
        have HCB : Hid (∀ j, j < L → (bare w4).cell? ⟨g, j, none⟩ = some (.int .u8 (xs.getD j 0))) := hcb
        have HAj : Hid (∀ j, j < L - k → A.add j = ⟨g, k + j, none⟩) := hAj
        have hl1 : ((xs.take k).map (Value.int .u8)).length = k * 1 := by simp; omega
        have hl2 : ((xs.drop k).map (Value.int .u8)).length = (L - k) * 1 := by simp; omega
        have HCbare : Hid (Cur w0 a len cap b (bare w4)) := HC4.out.bare
        clear hcell hfr hblk hcb hAj hA
        go_wp2
        go_region_law (first
          | (refine step_append_own rfl (.tmp 59) (.tmp 62) 22 rfl w4.heap.size 5 i0 (.int .u8 0) 1 1 Tryz.underlying22 hi hz0 hz1 hz2 rfl (by decide) (.slice (some ⟨w4.heap.size, 0, none⟩) 0 0) 0 [] (by simp [Act.eval, Act.put]) HO0.out ⟨g, 0, none⟩ k cap' ((xs.take k).map (Value.int .u8)) (by simp [Act.eval, Act.put]) hl1 HS1.out (ints_one _) (by unfold maxLen; omega) (by omega) (by simp [bare]) ?_; intro v1 W1 hown1 hgrow1 hnil1; have hC1 := HCbare.out.grown hgrow1 (by simp [Value.ownBlock]; omega) (own_ge (w1 := W1) HO0.out (Nat.le_trans hw0 hw4)); have hcW1 := cell_grown HO0.out hgrow1 (by simp [bare]; omega) (by simp [Value.ownBlock]; omega) HCB.out; have hsW1 : w4.heap.size ≤ W1.heap.size := Nat.le_trans (show w4.heap.size ≤ (bare w4).heap.size by simp [bare]) hgrow1.size; have HW1 : Hid (∀ j, j < L → W1.cell? ⟨g, j, none⟩ = some (.int .u8 (xs.getD j 0))) := hcW1; clear hcW1)
          | (refine step_append_own rfl (.tmp 63) (.tmp 70) 22 rfl w4.heap.size 5 i0 (.int .u8 0) 1 1 Tryz.underlying22 hi hz0 hz1 hz2 rfl (by decide) v1 (0 + k) ([] ++ (xs.take k).map (Value.int .u8)) (by simp [Act.eval, Act.put]) ((own_kept hC1 hown1 hG5).alloc _) ⟨W2.heap.size, 0, none⟩ 1 1 [.int .u8 (signs[y].toNat : Int)] (by simp [Act.eval, Act.put]) rfl (one_cell5 _ _) (ints_one [(signs[y].toNat : Int)]) (by unfold maxLen; omega) (by omega) (by simp; have := hG5.size; omega) ?_; intro v3 W3 hown3 hgrow3 hnil3)
          | (refine step_append_own rfl (.tmp 71) (.tmp 74) 22 rfl w4.heap.size 5 i0 (.int .u8 0) 1 1 Tryz.underlying22 hi hz0 hz1 hz2 rfl (by decide) v3 (0 + k + 1) (([] ++ (xs.take k).map (Value.int .u8)) ++ [.int .u8 (signs[y].toNat : Int)]) (by simp [Act.eval, Act.put]) hown3 A (L - k) (cap' - k) ((xs.drop k).map (Value.int .u8)) (by simp [Act.eval, Act.put]) hl2 (src_suf hxl HAj.out (cells3 hg4 hgb hsW1 HW1.out hG5 hown1 hgrow3)) (ints_one _) (by unfold maxLen; omega) (by omega) (Nat.le_trans hsW1 (Nat.le_trans hG5.size (Nat.le_trans (by simp) hgrow3.size))) ?_; intro v4 W4 hown4 hgrow4 hnil4)
          | (go_simp; go_at_call 45; refine (cBelow signs.size w0 a len cap b _ hlen HR.out hC1 hg0 hg1).mono ?_; rintro e W2 ⟨y, rfl, hy, hC5, hG5⟩))
        have O2 := own_kept hC1 hown1 hG5
        have C3 := (hC5.alloc (.cells #[.int .u8 (signs[y].toNat : Int)] 5)).grown hgrow3 (fun e => (hC5.ne O2) e.symm) (own_ge (w1 := W3) O2 (Nat.le_trans hw0 hw4))
        have C4 := C3.grown hgrow4 (fun e => (C3.ne hown3) e.symm) (own_ge (w1 := W4) hown3 (Nat.le_trans hw0 hw4))
        have G1 := g_row (gtrans HGr.out HG4.out) (grown_bare w4 none) (by simp)
        have G2 := gtrans (g_row G1 hgrow1 (own_ge (w1 := W1) HO0.out hw4)) hG5
        have G3 := g_row (g_row G2 (World.grownBy_alloc W2 (.cells #[.int .u8 (signs[y].toNat : Int)] 5) none) (by simp)) hgrow3 (own_ge (w1 := W3) O2 hw4)
        have G4 := g_row G3 hgrow4 (own_ge (w1 := W4) hown3 hw4)
        have nn1 : v1 ≠ .slice none 0 0 := fun e => by simpa using (hnil1.1 e).1
        have nn3 : v3 ≠ .slice none 0 0 := fun e => nn1 (hnil3.1 e).1
        have nn4 : v4 ≠ .slice none 0 0 := fun e => nn3 (hnil4.1 e).1
        have R : RowV w4.heap.size b W4 v4 (L + 1) (C + 1) := by
          refine RowV.of_own (zs := xs.take k ++ [(signs[y].toNat : Int)] ++ xs.drop k) ?_ nn4 (C4.ne hown4) (Nat.le_trans (count_ins xs k _) (Nat.succ_le_succ HCNT.out))
          have e1 : 0 + k + 1 + (L - k) = L + 1 := by omega
          rw [← e1, List.map_append, List.map_append]
          exact hown4
        have HRn : Hid (RowV w.heap.size b W4 v4 (L + 1) (C + 1)) := R.mono hw4
        have HCn : Hid (Cur w0 a len cap b W4) := C4
        have HGn : Hid (w.grownBy W4 (some b)) := G4
        clear R O2 C3 C4 G1 G2 G3 G4 nn1 nn3 nn4 hown1 hown3 hown4 hgrow1 hgrow3 hgrow4 hnil1 hnil3 hnil4 hs3 hs8 HO0 HS1 HCB HAj hl1 hl2 hC1 hC5 hG5 HW1
        go_wp2
        go_roundw
        case rel => exact ⟨m - 1, L + 1, C + 1, by go_num, by omega, by omega, by omega, HRn.out, HCn.out, HGn.out⟩
        case measure => simp [intOf]; omega
    · have hrow : ∀ W, (∀ j, j < L → W.cell? ⟨g, j, none⟩ = some (.int .u8 (xs.getD j 0))) → (convert 22 9 (.slice (some ⟨g, 0, none⟩) L cap')).run Tryz.prog W = .ok (.string (strOfNums xs)) W := fun W hW => run_convert_bytes_arg (P := Tryz.prog) W 22 5 Tryz.underlying22 Tryz.underlying5 g 0 L cap' xs hxl (fun i hi => by rw [Nat.zero_add]; exact hW i hi) 9 Tryz.underlying9
      have hr := hrow wr hcell
      have hsz : (strOfNums xs).size = L := by rw [strOfNums_size]; exact hxl
      have HCT := hid (show cntB (strOfNums xs) ≤ C by rw [count_str]; exact HCNT.out)
      clear hrow hcell hfr
      by_cases hm0 : 0 < m
      · have hmb : decide ((0 : Int) < (m : Int)) = true := by simp; omega
        have hLb : decide ((0 : Int) < (L : Int)) = false := by simp; omega
        go_wp2
        go_ret
        exact ⟨_, rfl, ⟨by rw [hsz]; omega, by have := HCT.out; omega⟩, HCr.out, HGr.out⟩
      · have hmb : decide ((0 : Int) < (m : Int)) = false := by simp; omega
        go_wp2
        go_ret
        exact ⟨_, rfl, ⟨by rw [hsz]; omega, by have := HCT.out; omega⟩, HCr.out, HGr.out⟩

end Go.Proofs.YteninofjeidljaaGreat
