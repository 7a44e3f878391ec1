/- A row of tokens of which every list owns its memory: marks in it, set and held. A copy of attrs, in memory of its own. A row of nodes that grows, every list of it in a block of its own. -/
import Derived.Test.YtkejmifkjgpdjaaM3
import Derived.Maps.AppendAt
import Derived.Deep.Upon
namespace Go.Proofs.Ytkejmifkjgpdjaa
open Go.RowKit
set_option linter.unusedVariables false
set_option linter.unusedSimpArgs false

/-- Where a row of tokens and their attrs lie. -/
structure Shape where
  R : Nat
  o : Nat
  n : Nat
  len : Nat → Nat
  aa : Nat → Option Addr
  A : Nat → Nat
  O : Nat → Nat
  C : Nat → Nat

/-- From block B on; no two lists in one block. -/
structure Shape.Ok (s : Shape) (B : Nat) : Prop where
  row : B ≤ s.R
  at_ : ∀ j, j < s.n → 0 < s.len j → s.aa j = some ⟨s.A j, s.O j, none⟩ ∧ B ≤ s.A j ∧ ¬ s.A j = s.R
  apart : ∀ i j, i < s.n → j < s.n → ¬ i = j → 0 < s.len i → 0 < s.len j → ¬ s.A i = s.A j

/-- The blocks of the row and of its lists. -/
def Shape.Has (s : Shape) (b : Nat) : Prop := b = s.R ∨ ∃ j, j < s.n ∧ 0 < s.len j ∧ b = s.A j

theorem Shape.Ok.has {s : Shape} {B : Nat} (h : s.Ok B) {b : Nat} (hb : s.Has b) : B ≤ b := by
  rcases hb with rfl | ⟨j, hj, hl, rfl⟩
  · exact h.row
  · exact (h.at_ j hj hl).2.1

structure TkCells (cur : Array Value) (p : Nat) (t : Tk) (aa : Option Addr) (cap : Nat) : Prop where
  c0 : cur[p]? = some (.int .i64 t.kind)
  c1 : cur[p + 1]? = some (.string t.name)
  c2 : cur[p + 2]? = some (.slice aa t.attrs.length cap)
  c3 : cur[p + 3]? = some (.string t.text)

/-- The tokens f lie there. -/
structure Shape.Holds (s : Shape) (w : World) (f : Nat → Tk) : Prop where
  row : ∃ cur, w.heap[s.R]? = some (.cells cur 76 (0, 0)) ∧ ∀ j, j < s.n → TkCells cur (s.o + j * 4) (f j) (s.aa j) (s.C j)
  len : ∀ j, j < s.n → (f j).attrs.length = s.len j
  ats : ∀ j, j < s.n → 0 < s.len j → ∃ cu, w.heap[s.A j]? = some (.cells cu 86 (0, 0)) ∧ AtCells cu (s.O j) (f j).attrs

theorem Shape.Holds.keep {s : Shape} {w w' : World} {f : Nat → Tk} {p : Nat → Prop} (h : s.Holds w f) (k : KeepB p w w') (h1 : ¬ p s.R) (h2 : ∀ j, j < s.n → 0 < s.len j → ¬ p (s.A j)) : s.Holds w' f := by
  obtain ⟨cur, hc, hr⟩ := h.row
  refine ⟨⟨cur, (k.block _ (lt_of_heap hc) h1).trans hc, hr⟩, h.len, fun j hj hl => ?_⟩
  obtain ⟨cu, hcu, ha⟩ := h.ats j hj hl
  exact ⟨cu, (k.block _ (lt_of_heap hcu) (h2 j hj hl)).trans hcu, ha⟩
-- over type 76

theorem Shape.Holds.below {s : Shape} {w w' : World} {f : Nat → Tk} (h : s.Holds w f) (k : Below w.heap.size w w') : s.Holds w' f :=
  h.keep (KeepB.of_below (fun _ => False) k) (fun x => x) (fun _ _ _ x => x)
-- over type 76

theorem Shape.Holds.atRow {s : Shape} {w : World} {f : Nat → Tk} {B : Nat} (h : s.Holds w f) (ok : s.Ok B) (j : Nat) (hj : j < s.n) : AtRow w (s.aa j) (f j).attrs := by
  intro m hm
  have hl : 0 < s.len j := by rw [← h.len j hj]; omega
  obtain ⟨cu, hcu, ha⟩ := h.ats j hj hl
  obtain ⟨c1, c2⟩ := ha m hm
  exact ⟨s.A j, s.O j, (ok.at_ j hj hl).1, lt_of_heap hcu, by rw [Lib.cell_of_heap hcu]; exact c1, by rw [Lib.cell_of_heap hcu]; exact c2⟩
-- over type 76

theorem Shape.Holds.tkRow {s : Shape} {w : World} {f : Nat → Tk} {B : Nat} {ts : List Tk} (h : s.Holds w f) (ok : s.Ok B) (hn : ts.length = s.n) (hf : ∀ j (hj : j < ts.length), f j = ts[j]) : TkRow w (some ⟨s.R, s.o, none⟩) ts := by
  intro j hj
  obtain ⟨cur, hc, hr⟩ := h.row
  have hjn : j < s.n := by omega
  have t := hr j hjn
  have ha := h.atRow ok j hjn
  rw [hf j hj] at t ha
  exact ⟨s.R, s.o, s.aa j, s.C j, rfl, lt_of_heap hc, by rw [Lib.cell_of_heap hc]; exact t.c0, by rw [Lib.cell_of_heap hc]; exact t.c1, by rw [Lib.cell_of_heap hc]; exact t.c2, by rw [Lib.cell_of_heap hc]; exact t.c3, ha⟩
-- over type 76

/-- Attrs that bear the marks from k on. -/
def mkAts (k n : Nat) : List At := (List.range n).map fun j => ⟨markS (k + 2 * j), markS (k + 2 * j + 1)⟩

theorem mkAts_len (k n : Nat) : (mkAts k n).length = n := by simp [mkAts]

theorem mkAts_get (k n j : Nat) (h : j < (mkAts k n).length) : (mkAts k n)[j].name = markS (k + 2 * j) ∧ (mkAts k n)[j].value = markS (k + 2 * j + 1) := by
  simp [mkAts]

/-- A token that bears the marks from k on. -/
def mkTk (k n : Nat) : Tk := ⟨k, markS (k + 1), mkAts (k + 2) n, markS (k + 2 + 2 * n)⟩

/-- The first mark of token j. -/
def Shape.K (s : Shape) (k : Nat) : Nat → Nat
  | 0 => k
  | j + 1 => Shape.K s k j + (3 + 2 * s.len j)

theorem Shape.K_le (s : Shape) (k : Nat) : ∀ j m, j ≤ m → s.K k j ≤ s.K k m := by
  intro j m h
  induction m with
  | zero =>
    have : j = 0 := by omega
    subst this; exact Nat.le_refl _
  | succ m ih =>
    rcases Nat.lt_or_eq_of_le h with h' | h'
    · have := ih (by omega)
      show s.K k j ≤ s.K k m + (3 + 2 * s.len m)
      omega
    · subst h'; exact Nat.le_refl _

theorem marksA_cells {cu : Array Value} {o n k : Nat} (h : MarksA cu o n k) : AtCells cu o (mkAts k n) := by
  intro m hm
  obtain ⟨h1, h2⟩ := mkAts_get k n m hm
  rw [mkAts_len] at hm
  rw [h1, h2]
  exact h m hm

end Go.Proofs.Ytkejmifkjgpdjaa

namespace Go.Proofs.Ytkejmifkjgpdjaa
open Go.RowKit
set_option linter.unusedVariables false
set_option linter.unusedSimpArgs false

theorem add_plainW (b o j : Nat) : (⟨b, o, none⟩ : Addr).add j = ⟨b, o + j, none⟩ := by unfold Addr.add; split <;> simp_all

/-- append of nothing. -/
theorem wpL_none {P : Program} (w : World) {ops : Array Oper} {rest : List Oper} {o : Oper} {a : Act} {Q : Exit → Act → World → Prop} (hgd : o.guard = none) (s x : Operand) (t e : TypeId) (i : TypeInfo)
    (ho : o.op = .call { callee := .builtin .append, args := #[s, x], argTypes := #[t, t] }) (ht : P.underlying t = some (.slice e)) (hi : P.info? e = some i)
    (b : Option Addr) (n c : Nat) (hs : a.eval s = .slice b n c) (hle : n ≤ c) (ax : Option Addr) (cx : Nat) (hx : a.eval x = .slice ax 0 cx)
    (h : wpList P ops Q rest (a.put o.dst (.slice b n c)) w) : wpList P ops Q (o :: rest) a w := by
  refine wpList_plain hgd fun K hK => ?_
  have hsrc : Src P i.size t (.slice ax 0 cx) 0 [] w := by
    cases ax with
    | none => exact Src.ofNil w ht cx
    | some ad => exact Src.ofSlice w ht ad 0 cx [] (by simp) (fun j u h => by simp at h) (fun u h => by cases h)
  have hr := run_append_nothing (P := P) w t t o.type e i ht hi b n c hle _ hsrc
  unfold Oper.wp execOp
  simp only [ho, resolve, invoke, builtin, Sem.run_bind, Sem.run_pure, Result.andThen_ok, List.map_toArray, List.map_cons, List.map_nil, hs, hx, hr]
  exact hK _ _ h

/-- Attrs as cells. -/
def atC (l : List At) : List Value := l.flatMap fun x => [.string x.name, .string x.value]

theorem atC_len (l : List At) : (atC l).length = l.length * 2 := by
  induction l with
  | nil => rfl
  | cons x l ih => show (atC l).length + 2 = _; rw [ih, List.length_cons]; omega

theorem atC_get (l : List At) (j : Nat) (h : j < l.length) : (atC l)[j * 2]? = some (.string l[j].name) ∧ (atC l)[j * 2 + 1]? = some (.string l[j].value) := by
  induction l generalizing j with
  | nil => simp at h
  | cons x l ih =>
    have e : atC (x :: l) = .string x.name :: .string x.value :: atC l := rfl
    rw [e]
    match j with
    | 0 => exact ⟨rfl, rfl⟩
    | j + 1 =>
      have := ih j (by simpa using h)
      rw [show (j + 1) * 2 = j * 2 + 1 + 1 by omega]
      exact this

theorem atC_one (l : List At) : ∀ u ∈ atC l, u.oneCell' = true := by
  intro u hu
  unfold atC at hu
  obtain ⟨x, _, hx⟩ := List.mem_flatMap.1 hu
  simp at hx
  rcases hx with rfl | rfl <;> rfl

theorem atC_row {w : World} {b o : Nat} {l : List At} (h : AtRow w (some ⟨b, o, none⟩) l) : ∀ j u, (atC l)[j]? = some u → w.cell? ((⟨b, o, none⟩ : Addr).add j) = some u := by
  intro j u hj
  have hlt : j < l.length * 2 := by
    rw [← atC_len]
    exact (List.getElem?_eq_some_iff.1 hj).1
  rw [add_plainW]
  obtain ⟨b', o', e, _, c1, c2⟩ := h (j / 2) (by omega)
  cases e
  obtain ⟨g1, g2⟩ := atC_get l (j / 2) (by omega)
  rcases Nat.mod_two_eq_zero_or_one j with h2 | h2
  · have e2 : j / 2 * 2 = j := by omega
    rw [e2] at g1 c1
    rw [g1] at hj
    cases hj
    exact c1
  · have e2 : j / 2 * 2 + 1 = j := by omega
    rw [Nat.add_assoc, e2] at c2
    rw [e2] at g2
    rw [g2] at hj
    cases hj
    exact c2

theorem infoAtW : (Try.prog.info? 86).map (fun i => (i.zero, i.size, i.bytes)) = some (some (.agg #[.string ⟨#[]⟩, .string ⟨#[]⟩]), 2, 32) := by kernel_rfl

/-- A list of attrs in a block of its own, from B on. -/
def OwnAts (w : World) (B : Nat) (a : Option Addr) (l : List At) : Prop := 0 < l.length → ∃ g o cu, a = some ⟨g, o, none⟩ ∧ B ≤ g ∧ w.heap[g]? = some (.cells cu 86 (0, 0)) ∧ AtCells cu o l

theorem OwnAts.atRow {w : World} {B : Nat} {a : Option Addr} {l : List At} (h : OwnAts w B a l) : AtRow w a l := by
  intro j hj
  obtain ⟨g, o, cu, e, _, hh, hc⟩ := h (by omega)
  obtain ⟨c1, c2⟩ := hc j hj
  exact ⟨g, o, e, lt_of_heap hh, by rw [Lib.cell_of_heap hh]; exact c1, by rw [Lib.cell_of_heap hh]; exact c2⟩

theorem OwnAts.below {w w' : World} {B : Nat} {a : Option Addr} {l : List At} (h : OwnAts w B a l) (hb : Below w.heap.size w w') : OwnAts w' B a l := by
  intro hl
  obtain ⟨g, o, cu, e, hB, hh, hc⟩ := h hl
  exact ⟨g, o, cu, e, hB, (hb.block g (lt_of_heap hh)).trans hh, hc⟩

set_option maxHeartbeats 1000000 in
theorem cCopyS (a : Option Addr) (cap : Nat) (l : List At) (w : World) (hR : AtRow w a l) (hn : l.length ≤ 1048576) :
    Calls Try.prog 40 #[.slice a l.length cap] w fun e w' => ∃ a' c', e = .returned (.slice a' l.length c') ∧ OwnAts w' w.heap.size a' l ∧ Below w.heap.size w w' := by
  obtain ⟨i0, hi, hz0, hz1, hz2⟩ := info_parts infoAtW
  have HB0 := hid ((Below.refl w.heap.size w).alloc (Nat.le_refl _) (.cells #[] 86))
  by_cases h0 : l.length = 0
  · have : l = [] := List.eq_nil_of_length_eq_zero h0
    subst this
    go_enter Try.func40, Try.ntmps40
    go_wp2_with (at_builtin; refine wpL_none _ rfl _ _ 48 86 i0 rfl Try.underlying48 hi _ _ _ rfl (Nat.le_refl _) a cap rfl ?_)
    go_ret
    exact ⟨_, _, rfl, fun h => absurd h (by simp), HB0.out⟩
  · obtain ⟨b, o, rfl, hb, hcc⟩ := hR 0 (by omega)
    clear hcc
    have HR := hid (hR.below HB0.out)
    have HO : Hid ((w.alloc (.cells #[] 86)).ownsRow w.heap.size 86 2 (.slice (some ⟨w.heap.size, 0, none⟩) 0 0) 0 []) :=
      ⟨rfl, .inr ⟨w.heap.size, 0, #[], rfl, Nat.le_refl _, heap_alloc_new _ _, Nat.le_refl _, Nat.zero_le _, rfl, rfl⟩⟩
    have HN := hid h0
    clear hR h0
    go_enter Try.func40, Try.ntmps40
    go_wp2_with (at_builtin; refine wpList_append_own_at _ rfl _ _ 48 rfl w.heap.size 86 i0 _ 2 32 Try.underlying48 hi hz0 hz1 hz2 rfl (by decide) _ 0 [] rfl HO.out ⟨b, o, none⟩ l.length cap (atC l) rfl (atC_len l) (atC_row HR.out) (atC_one l) ?c3 ?c4 ?c5 ?_)
    case c3 => unfold maxLen; omega
    case c4 => omega
    case c5 => simp
    intro v' w2 hown hgrow _ _
    have HB2 := hid (HB0.out.grown hgrow (by simp) (fun g hg => (HO.out.lt g hg).1))
    rcases hown.2 with ⟨_, h'⟩ | ⟨g, cp, cur, rfl, hg, hh, hn', hc, hs, ht⟩
    · exact absurd h' HN.out
    · have HA := hid (show OwnAts w2 w.heap.size (some ⟨g, 0, none⟩) l from fun _ => ⟨g, 0, cur, rfl, hg, hh, fun j hj => by
        obtain ⟨g1, g2⟩ := atC_get l j hj
        rw [← ht, List.getElem?_take] at g1 g2
        refine ⟨?_, ?_⟩
        · rw [Nat.zero_add, ← Array.getElem?_toList]
          split at g1
          · exact g1
          · cases g1
        · rw [Nat.zero_add, ← Array.getElem?_toList]
          split at g2
          · exact g2
          · cases g2⟩)
      clear hown hgrow hh hc hs ht hg
      go_wp2
      go_ret
      exact ⟨_, _, rfl, HA.out, HB2.out⟩

end Go.Proofs.Ytkejmifkjgpdjaa

namespace Go.Proofs.Ytkejmifkjgpdjaa.Nd
open Go.RowKit
set_option linter.unusedVariables false
set_option linter.unusedSimpArgs false

theorem infoR : (Try.prog.info? 50).map (fun i => (i.zero, i.size, i.bytes)) = some (some (.agg #[.int .i64 0, .string ⟨#[]⟩, .slice none 0 0, .string ⟨#[]⟩]), 4, 64) := by kernel_rfl

/-- One of the row, and where its attrs lie. -/
structure E where
  t : Tk
  a : Option Addr
  cap : Nat

def c1 (e : E) : List Value := [.int .i64 e.t.kind, .string e.t.name, .slice e.a e.t.attrs.length e.cap, .string e.t.text]

def cs (es : List E) : List Value := es.flatMap c1

theorem cs_app (es fs : List E) : cs (es ++ fs) = cs es ++ cs fs := by unfold cs; rw [List.flatMap_append]

theorem cs_one (e : E) : cs [e] = c1 e := by simp [cs]

theorem cs_len (es : List E) : (cs es).length = es.length * 4 := by
  induction es with
  | nil => rfl
  | cons x es ih => show (cs es).length + 4 = _; rw [ih, List.length_cons]; omega

theorem cs_cell (es : List E) : ∀ u ∈ cs es, u.oneCell' = true := by
  intro u hu
  unfold cs at hu
  obtain ⟨e, _, he⟩ := List.mem_flatMap.1 hu
  simp [c1] at he
  rcases he with rfl | rfl | rfl | rfl <;> rfl

theorem cs_get (es : List E) (j : Nat) (h : j < es.length) : (cs es)[j * 4]? = some (.int .i64 es[j].t.kind) ∧ (cs es)[j * 4 + 1]? = some (.string es[j].t.name)
    ∧ (cs es)[j * 4 + 2]? = some (.slice es[j].a es[j].t.attrs.length es[j].cap) ∧ (cs es)[j * 4 + 3]? = some (.string es[j].t.text) := by
  induction es generalizing j with
  | nil => simp at h
  | cons x es ih =>
    have e : cs (x :: es) = .int .i64 x.t.kind :: .string x.t.name :: .slice x.a x.t.attrs.length x.cap :: .string x.t.text :: cs es := rfl
    rw [e]
    match j with
    | 0 => exact ⟨rfl, rfl, rfl, rfl⟩
    | j + 1 =>
      have := ih j (by simpa using h)
      rw [show (j + 1) * 4 = j * 4 + 1 + 1 + 1 + 1 by omega]
      exact this

/-- The lists of these two lie in two blocks. -/
def Apart (e f : E) : Prop := 0 < e.t.attrs.length → 0 < f.t.attrs.length → ∀ g o g' o', e.a = some ⟨g, o, none⟩ → f.a = some ⟨g', o', none⟩ → ¬ g = g'

/-- The row so far: from B on. -/
structure Row (w : World) (B : Nat) (v : Value) (es : List E) : Prop where
  own : w.ownsRow B 50 4 v es.length (cs es)
  ats : ∀ e ∈ es, OwnAts w B e.a e.t.attrs ∧ ∀ g o, 0 < e.t.attrs.length → e.a = some ⟨g, o, none⟩ → ¬ v.ownBlock = some g
  apart : es.Pairwise Apart

theorem Row.below {w w' : World} {B : Nat} {v : Value} {es : List E} (h : Row w B v es) (hb : Below w.heap.size w w') : Row w' B v es :=
  ⟨ownsRow_below h.own hb, fun e he => ⟨(h.ats e he).1.below hb, (h.ats e he).2⟩, h.apart⟩

theorem Row.mono {w : World} {B B' : Nat} {v : Value} {es : List E} (h : Row w B' v es) (hB : B ≤ B') : Row w B v es := by
  refine ⟨⟨h.own.1, ?_⟩, fun e he => ⟨fun hl => ?_, (h.ats e he).2⟩, h.apart⟩
  · rcases h.own.2 with h' | ⟨g, cap, cur, h1, h2, h3⟩
    · exact .inl h'
    · exact .inr ⟨g, cap, cur, h1, Nat.le_trans hB h2, h3⟩
  · obtain ⟨g, o, cu, e1, e2, e3⟩ := (h.ats e he).1 hl
    exact ⟨g, o, cu, e1, Nat.le_trans hB e2, e3⟩

theorem Row.start (w : World) (B g : Nat) (hB : B ≤ g) (hh : w.heap[g]? = some (.cells #[] 50 (0, 0))) : Row w B (.slice (some ⟨g, 0, none⟩) 0 0) [] :=
  ⟨⟨rfl, .inr ⟨g, 0, #[], rfl, hB, hh, Nat.le_refl _, Nat.zero_le _, rfl, rfl⟩⟩, fun e he => absurd he List.not_mem_nil, List.Pairwise.nil⟩

theorem Row.start0 (w : World) (B : Nat) : Row w B (.slice none 0 0) [] :=
  ⟨World.ownsRow_nil _ _ _ _, fun e he => absurd he List.not_mem_nil, List.Pairwise.nil⟩

/-- A row of one, made at once. -/
theorem Row.one {w : World} {B g : Nat} {e : E} (hB : B ≤ g) (hh : w.heap[g]? = some (.cells #[.int .i64 e.t.kind, .string e.t.name, .slice e.a e.t.attrs.length e.cap, .string e.t.text] 50 (0, 0))) (ha : OwnAts w B e.a e.t.attrs) (hne : ∀ g' o, 0 < e.t.attrs.length → e.a = some ⟨g', o, none⟩ → ¬ g' = g) :
    Row w B (.slice (some ⟨g, 0, none⟩) 1 1) [e] :=
  ⟨⟨rfl, .inr ⟨g, 1, _, rfl, hB, hh, Nat.le_refl _, by decide, rfl, rfl⟩⟩, fun x hx => by
    rw [List.mem_singleton] at hx
    subst hx
    exact ⟨ha, fun g' o hl e1 e2 => hne g' o hl e1 (by simp [Value.ownBlock] at e2; exact e2.symm)⟩, List.pairwise_singleton _ _⟩

theorem Row.slice {w : World} {B : Nat} {v : Value} {es : List E} (h : Row w B v es) : ∃ a c, v = .slice a es.length c := by
  rcases h.own.2 with ⟨rfl, h0⟩ | ⟨g, cap, _, rfl, _⟩
  · exact ⟨none, 0, by rw [h0]⟩
  · exact ⟨_, cap, rfl⟩

theorem Row.tkRow {w : World} {B : Nat} {v : Value} {es : List E} (h : Row w B v es) : ∃ a cap, v = .slice a es.length cap ∧ TkRow w a (es.map (·.t)) := by
  rcases h.own.2 with ⟨rfl, h0⟩ | ⟨g, cap, cur, rfl, hg, hh, hn, hc, hs, ht⟩
  · exact ⟨none, 0, by rw [h0], fun j hj => by rw [List.length_map] at hj; omega⟩
  · refine ⟨some ⟨g, 0, none⟩, cap, rfl, fun j hj => ?_⟩
    rw [List.length_map] at hj
    obtain ⟨k0, k1, k2, k3⟩ := cs_get es j hj
    have hx : ∀ k u, (cs es)[k]? = some u → w.cell? ⟨g, 0 + k, none⟩ = some u := by
      intro k u hk
      rw [Lib.cell_of_heap hh, Nat.zero_add, ← Array.getElem?_toList]
      rw [← ht, List.getElem?_take] at hk
      split at hk
      · exact hk
      · cases hk
    rw [List.getElem_map]
    exact ⟨g, 0, es[j].a, es[j].cap, rfl, lt_of_heap hh, hx _ _ k0, hx _ _ k1, hx _ _ k2, hx _ _ k3, (h.ats _ (List.getElem_mem hj)).1.atRow⟩

theorem Row.join {w w' : World} {B : Nat} {v v' : Value} {es fs : List E} (h : Row w B v es)
    (hf : ∀ e ∈ fs, OwnAts w B e.a e.t.attrs ∧ ∀ g o, 0 < e.t.attrs.length → e.a = some ⟨g, o, none⟩ → ¬ v.ownBlock = some g) (hp : fs.Pairwise Apart) (hx : ∀ e ∈ es, ∀ f ∈ fs, Apart e f)
    (ho : w'.ownsRow B 50 4 v' (es.length + fs.length) (cs es ++ cs fs)) (hgr : w.grownBy w' v.ownBlock) (hw : v'.ownBlock = v.ownBlock ∨ v'.ownBlock = some w.heap.size) : Row w' B v' (es ++ fs) := by
  have key : ∀ e : E, (OwnAts w B e.a e.t.attrs ∧ ∀ g o, 0 < e.t.attrs.length → e.a = some ⟨g, o, none⟩ → ¬ v.ownBlock = some g) → OwnAts w' B e.a e.t.attrs ∧ ∀ g o, 0 < e.t.attrs.length → e.a = some ⟨g, o, none⟩ → ¬ v'.ownBlock = some g := by
    rintro e ⟨h1, h2⟩
    refine ⟨fun hl => ?_, fun g o hl hg x => ?_⟩
    · obtain ⟨g, o, cu, e1, e2, e3, e4⟩ := h1 hl
      exact ⟨g, o, cu, e1, e2, (hgr.block g (lt_of_heap e3) (fun x => h2 g o hl e1 x.symm)).trans e3, e4⟩
    · rcases hw with hw | hw
      · exact h2 g o hl hg (hw.symm.trans x)
      · rw [hw] at x
        simp only [Option.some.injEq] at x
        obtain ⟨g2, o2, cu, e1, _, e3, _⟩ := h1 hl
        rw [hg] at e1
        cases e1
        have := lt_of_heap e3
        omega
  refine ⟨by rw [List.length_append, cs_app]; exact ho, fun e he => ?_, List.pairwise_append.2 ⟨h.apart, hp, hx⟩⟩
  rcases List.mem_append.1 he with h' | h'
  · exact key e (h.ats e h')
  · exact key e (hf e h')

/-- Of what was there and what is made later. -/
theorem Row.apart_later {w w2 : World} {B B2 : Nat} {v v2 : Value} {es fs : List E} (h : Row w B v es) (k : Row w2 B2 v2 fs) (hB : w.heap.size ≤ B2) : (∀ e ∈ es, ∀ f ∈ fs, Apart e f) ∧ ∀ f ∈ fs, ∀ g o, 0 < f.t.attrs.length → f.a = some ⟨g, o, none⟩ → ¬ v.ownBlock = some g := by
  refine ⟨fun e he f hf hl hl' g o g' o' e1 e2 x => ?_, fun f hf g o hl e1 x => ?_⟩
  · subst x
    obtain ⟨g1, o1, cu, a1, _, a3, _⟩ := (h.ats e he).1 hl
    obtain ⟨g2, o2, cu2, b1, b2, _⟩ := (k.ats f hf).1 hl'
    rw [e1] at a1
    rw [e2] at b1
    cases a1
    cases b1
    have := lt_of_heap a3
    omega
  · obtain ⟨g2, o2, cu2, b1, b2, _⟩ := (k.ats f hf).1 hl
    rw [e1] at b1
    cases b1
    have := (h.own.lt g x).2
    omega

theorem Row.cells {w : World} {B : Nat} {a : Option Addr} {n c : Nat} {es : List E} (h : Row w B (.slice a n c) es) (hne : ¬ es = []) : ∃ g, a = some ⟨g, 0, none⟩ ∧ n = es.length ∧ ∀ j u, (cs es)[j]? = some u → w.cell? ((⟨g, 0, none⟩ : Addr).add j) = some u := by
  rcases h.own.2 with ⟨_, h0⟩ | ⟨g, cap, cur, e, hg, hh, hn, hc, hs, ht⟩
  · exact absurd (List.eq_nil_of_length_eq_zero h0) hne
  · cases e
    refine ⟨g, rfl, rfl, fun j u hk => ?_⟩
    rw [add_plainW, Lib.cell_of_heap hh, Nat.zero_add, ← Array.getElem?_toList]
    rw [← ht, List.getElem?_take] at hk
    split at hk
    · exact hk
    · cases hk

/-- append of such a row. -/
theorem wpL_join (w : World) {ops : Array Oper} {rest : List Oper} {o : Oper} {a : Act} {Q : Exit → Act → World → Prop} (hgd : o.guard = none) (s x : Operand)
    (ho : o.op = .call { callee := .builtin .append, args := #[s, x], argTypes := #[26, 26] }) (base : Nat) (v : Value) (es fs : List E) (hs : a.eval s = v) (hown : Row w base v es)
    (g m c : Nat) (hx : a.eval x = .slice (some ⟨g, 0, none⟩) m c) (hm : m = fs.length) (hB : ∀ j u, (cs fs)[j]? = some u → w.cell? ((⟨g, 0, none⟩ : Addr).add j) = some u)
    (hf : ∀ e ∈ fs, OwnAts w base e.a e.t.attrs ∧ ∀ g o, 0 < e.t.attrs.length → e.a = some ⟨g, o, none⟩ → ¬ v.ownBlock = some g) (hp : fs.Pairwise Apart) (hap : ∀ e ∈ es, ∀ f ∈ fs, Apart e f) (hn : es.length + fs.length ≤ 2097152) (hb : base ≤ w.heap.size)
    (h : ∀ a' c' w', Row w' base (.slice a' (es ++ fs).length c') (es ++ fs) → Below base w w' → w.grownBy w' v.ownBlock → wpList Try.prog ops Q rest (a.put o.dst (.slice a' (es ++ fs).length c')) w') : wpList Try.prog ops Q (o :: rest) a w := by
  subst hm
  obtain ⟨i0, hi, hz0, hz1, hz2⟩ := info_parts infoR
  refine wpList_append_own_at w hgd s x 26 ho base 50 i0 _ 4 64 Try.underlying26 hi hz0 hz1 hz2 rfl (by decide) v es.length (cs es) hs hown.own ⟨g, 0, none⟩ fs.length c (cs fs) hx (cs_len fs) hB (cs_cell fs) (by unfold maxLen; omega) (by omega) hb ?_
  intro v' w' ho' hg' _ hw'
  have hr := hown.join hf hp hap ho' hg' hw'
  obtain ⟨a', c', hv'⟩ := hr.slice
  subst hv'
  exact h a' c' w' hr ((Below.refl base w).grown hg' hb (fun k e => (hown.own.lt k e).1)) hg'

/-- .. as one step of a region that draws. -/
theorem step_join {ops : Array Oper} {o : Oper} {a : Act} {w : World} {K : Act → World → Prop} {Q : Exit → Act → World → Prop} {F : Prop} (hgd : o.guard = none) (s x : Operand)
    (ho : o.op = .call { callee := .builtin .append, args := #[s, x], argTypes := #[26, 26] }) (base : Nat) (v : Value) (es fs : List E) (hs : a.eval s = v) (hown : Row w base v es)
    (g m c : Nat) (hx : a.eval x = .slice (some ⟨g, 0, none⟩) m c) (hm : m = fs.length) (hB : ∀ j u, (cs fs)[j]? = some u → w.cell? ((⟨g, 0, none⟩ : Addr).add j) = some u)
    (hf : ∀ e ∈ fs, OwnAts w base e.a e.t.attrs ∧ ∀ g o, 0 < e.t.attrs.length → e.a = some ⟨g, o, none⟩ → ¬ v.ownBlock = some g) (hp : fs.Pairwise Apart) (hap : ∀ e ∈ es, ∀ f ∈ fs, Apart e f) (hn : es.length + fs.length ≤ 2097152) (hb : base ≤ w.heap.size)
    (h : ∀ a' c' w', Row w' base (.slice a' (es ++ fs).length c') (es ++ fs) → Below base w w' → w.grownBy w' v.ownBlock → K (a.put o.dst (.slice a' (es ++ fs).length c')) w') :
    if Region.wanted o (yielded ops a.tmps) = true then Oper.wp Try.prog o a w K Q else F := by
  have hw : Region.wanted o (yielded ops a.tmps) = true := by simp [Region.wanted, hgd]
  rw [if_pos hw]
  subst hm
  obtain ⟨i0, hi, hz0, hz1, hz2⟩ := info_parts infoR
  obtain ⟨v', w', hr, ho', hg', _, hw'⟩ := run_append_own_at (P := Try.prog) w base 26 o.type 50 i0 _ 4 64 Try.underlying26 hi hz0 hz1 hz2 rfl (by decide) v es.length (cs es) hown.own ⟨g, 0, none⟩ fs.length c (cs fs) (cs_len fs) hB (cs_cell fs) (by unfold maxLen; omega) (by omega) hb
  have hrow := hown.join hf hp hap ho' hg' hw'
  obtain ⟨a', c', hv'⟩ := hrow.slice
  subst hv'
  unfold Oper.wp execOp
  simp only [ho, resolve, invoke, builtin, Sem.run_bind, Sem.run_pure, Result.andThen_ok, List.map_toArray, List.map_cons, List.map_nil, hs, hx, hr]
  exact h a' c' w' hrow ((Below.refl base w).grown hg' hb (fun k e => (hown.own.lt k e).1)) hg'

end Go.Proofs.Ytkejmifkjgpdjaa.Nd
