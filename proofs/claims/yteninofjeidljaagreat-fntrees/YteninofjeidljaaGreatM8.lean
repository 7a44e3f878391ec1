/- A copy of attrs, in memory of its own. A row of tokens that grows, every list of it in a block of its own. Contracts of attrAt and ValueIn of the program. Contracts of attrsOk and TokenOk of the program. -/
import Derived.Test.YteninofjeidljaaGreatM7
import Derived.Test.YteninofjeidljaaGreatM1
import Derived.Test.YteninofjeidljaaGreatM4
import Derived.Test.YteninofjeidljaaGreatM5
import Derived.Maps.AppendAt
import Derived.Deep.Upon
namespace Go.Proofs.YteninofjeidljaaGreat

open Go.RowKit

set_option linter.unusedVariables false

set_option linter.unusedSimpArgs false

theorem add_plainW (b o j : Nat) : (⟨b, o, none⟩ : Addr).add j = ⟨b, o + j, none⟩ := by unfold Addr.add; split <;> simp_all

/-- append of nothing. -/
theorem wpL_none {P : Program} (w : World) {ops : Array Oper} {rest : List Oper} {o : Oper} {a : Act} {Q : Exit → Act → World → Prop} (hgd : o.guard = none) (s x : Operand) (t e : TypeId) (i : TypeInfo)
    (ho : o.op = .call { callee := .builtin .append, args := #[s, x], argTypes := #[t, t] }) (ht : P.underlying t = some (.slice e)) (hi : P.info? e = some i)
    (b : Option Addr) (n c : Nat) (hs : a.eval s = .slice b n c) (hle : n ≤ c) (ax : Option Addr) (cx : Nat) (hx : a.eval x = .slice ax 0 cx)
    (h : wpList P ops Q rest (a.put o.dst (.slice b n c)) w) : wpList P ops Q (o :: rest) a w := by
  refine wpList_plain hgd fun K hK => ?_
  have hsrc : Src P i.size t (.slice ax 0 cx) 0 [] w := by
    cases ax with
    | none => exact Src.ofNil w ht cx
    | some ad => exact Src.ofSlice w ht ad 0 cx [] (by simp) (fun j u h => by simp at h) (fun u h => by cases h)
  have hr := run_append_nothing (P := P) w t t o.type e i ht hi b n c hle _ hsrc
  unfold Oper.wp execOp
  simp only [ho, resolve, invoke, builtin, Sem.run_bind, Sem.run_pure, Result.andThen_ok, List.map_toArray, List.map_cons, List.map_nil, hs, hx, hr]
  exact hK _ _ h

/-- Attrs as cells. -/
def atC (l : List At) : List Value := l.flatMap fun x => [.string x.name, .string x.value]

theorem atC_len (l : List At) : (atC l).length = l.length * 2 := by
  induction l with
  | nil => rfl
  | cons x l ih => show (atC l).length + 2 = _; rw [ih, List.length_cons]; omega

theorem atC_get (l : List At) (j : Nat) (h : j < l.length) : (atC l)[j * 2]? = some (.string l[j].name) ∧ (atC l)[j * 2 + 1]? = some (.string l[j].value) := by
  induction l generalizing j with
  | nil => simp at h
  | cons x l ih =>
    have e : atC (x :: l) = .string x.name :: .string x.value :: atC l := rfl
    rw [e]
    match j with
    | 0 => exact ⟨rfl, rfl⟩
    | j + 1 =>
      have := ih j (by simpa using h)
      rw [show (j + 1) * 2 = j * 2 + 1 + 1 by omega]
      exact this

theorem atC_one (l : List At) : ∀ u ∈ atC l, u.oneCell' = true := by
  intro u hu
  unfold atC at hu
  obtain ⟨x, _, hx⟩ := List.mem_flatMap.1 hu
  simp at hx
  rcases hx with rfl | rfl <;> rfl

theorem atC_row {w : World} {b o : Nat} {l : List At} (h : AtRow w (some ⟨b, o, none⟩) l) : ∀ j u, (atC l)[j]? = some u → w.cell? ((⟨b, o, none⟩ : Addr).add j) = some u := by
  intro j u hj
  have hlt : j < l.length * 2 := by
    rw [← atC_len]
    exact (List.getElem?_eq_some_iff.1 hj).1
  rw [add_plainW]
  obtain ⟨b', o', e, _, c1, c2⟩ := h (j / 2) (by omega)
  cases e
  obtain ⟨g1, g2⟩ := atC_get l (j / 2) (by omega)
  rcases Nat.mod_two_eq_zero_or_one j with h2 | h2
  · have e2 : j / 2 * 2 = j := by omega
    rw [e2] at g1 c1
    rw [g1] at hj
    cases hj
    exact c1
  · have e2 : j / 2 * 2 + 1 = j := by omega
    rw [Nat.add_assoc, e2] at c2
    rw [e2] at g2
    rw [g2] at hj
    cases hj
    exact c2

theorem infoAtW : (Tryz.prog.info? 114).map (fun i => (i.zero, i.size, i.bytes)) = some (some (.agg #[.string ⟨#[]⟩, .string ⟨#[]⟩]), 2, 32) := by kernel_rfl

/-- A list of attrs in a block of its own, from B on. -/
def OwnAts (w : World) (B : Nat) (a : Option Addr) (l : List At) : Prop := 0 < l.length → ∃ g o cu, a = some ⟨g, o, none⟩ ∧ B ≤ g ∧ w.heap[g]? = some (.cells cu 114 (0, 0)) ∧ AtCells cu o l

theorem OwnAts.atRow {w : World} {B : Nat} {a : Option Addr} {l : List At} (h : OwnAts w B a l) : AtRow w a l := by
  intro j hj
  obtain ⟨g, o, cu, e, _, hh, hc⟩ := h (by omega)
  obtain ⟨c1, c2⟩ := hc j hj
  exact ⟨g, o, e, lt_of_heap hh, by rw [Lib.cell_of_heap hh]; exact c1, by rw [Lib.cell_of_heap hh]; exact c2⟩

theorem OwnAts.below {w w' : World} {B : Nat} {a : Option Addr} {l : List At} (h : OwnAts w B a l) (hb : Below w.heap.size w w') : OwnAts w' B a l := by
  intro hl
  obtain ⟨g, o, cu, e, hB, hh, hc⟩ := h hl
  exact ⟨g, o, cu, e, hB, (hb.block g (lt_of_heap hh)).trans hh, hc⟩

set_option maxHeartbeats 1000000 in
theorem cCopyS (a : Option Addr) (cap : Nat) (l : List At) (w : World) (hR : AtRow w a l) (hn : l.length ≤ 1048576) :
    Calls Tryz.prog 53 #[.slice a l.length cap] w fun e w' => ∃ a' c', e = .returned (.slice a' l.length c') ∧ OwnAts w' w.heap.size a' l ∧ Below w.heap.size w w' := by
  obtain ⟨i0, hi, hz0, hz1, hz2⟩ := info_parts infoAtW
  have HB0 := hid ((Below.refl w.heap.size w).alloc (Nat.le_refl _) (.cells #[] 114))
  by_cases h0 : l.length = 0
  · have : l = [] := List.eq_nil_of_length_eq_zero h0
    subst this
    go_enter Tryz.func53, Tryz.ntmps53
    go_wp2_with (at_builtin; refine wpL_none _ rfl _ _ 40 114 i0 rfl Tryz.underlying40 hi _ _ _ rfl (Nat.le_refl _) a cap rfl ?_)
    go_ret
    exact ⟨_, _, rfl, fun h => absurd h (by simp), HB0.out⟩
  · obtain ⟨b, o, rfl, hb, hcc⟩ := hR 0 (by omega)
    clear hcc
    have HR := hid (hR.below HB0.out)
    have HO : Hid ((w.alloc (.cells #[] 114)).ownsRow w.heap.size 114 2 (.slice (some ⟨w.heap.size, 0, none⟩) 0 0) 0 []) :=
      ⟨rfl, .inr ⟨w.heap.size, 0, #[], rfl, Nat.le_refl _, heap_alloc_new _ _, Nat.le_refl _, Nat.zero_le _, rfl, rfl⟩⟩
    have HN := hid h0
    clear hR h0
    go_enter Tryz.func53, Tryz.ntmps53
    go_wp2_with (at_builtin; refine wpList_append_own_at _ rfl _ _ 40 rfl w.heap.size 114 i0 _ 2 32 Tryz.underlying40 hi hz0 hz1 hz2 rfl (by decide) _ 0 [] rfl HO.out ⟨b, o, none⟩ l.length cap (atC l) rfl (atC_len l) (atC_row HR.out) (atC_one l) ?c3 ?c4 ?c5 ?_)
    case c3 => unfold maxLen; omega
    case c4 => omega
    case c5 => simp
    intro v' w2 hown hgrow _ _
    have HB2 := hid (HB0.out.grown hgrow (by simp) (fun g hg => (HO.out.lt g hg).1))
    rcases hown.2 with ⟨_, h'⟩ | ⟨g, cp, cur, rfl, hg, hh, hn', hc, hs, ht⟩
    · exact absurd h' HN.out
    · have HA := hid (show OwnAts w2 w.heap.size (some ⟨g, 0, none⟩) l from fun _ => ⟨g, 0, cur, rfl, hg, hh, fun j hj => by
        obtain ⟨g1, g2⟩ := atC_get l j hj
        rw [← ht, List.getElem?_take] at g1 g2
        refine ⟨?_, ?_⟩
        · rw [Nat.zero_add, ← Array.getElem?_toList]
          split at g1
          · exact g1
          · cases g1
        · rw [Nat.zero_add, ← Array.getElem?_toList]
          split at g2
          · exact g2
          · cases g2⟩)
      clear hown hgrow hh hc hs ht hg
      go_wp2
      go_ret
      exact ⟨_, _, rfl, HA.out, HB2.out⟩

end Go.Proofs.YteninofjeidljaaGreat

namespace Go.Proofs.YteninofjeidljaaGreat.Tn

open Go.RowKit

set_option linter.unusedVariables false

set_option linter.unusedSimpArgs false

theorem infoR : (Tryz.prog.info? 49).map (fun i => (i.zero, i.size, i.bytes)) = some (some (.agg #[.int .i64 0, .string ⟨#[]⟩, .slice none 0 0, .string ⟨#[]⟩]), 4, 64) := by kernel_rfl

/-- One of the row, and where its attrs lie. -/
structure E where
  t : Tk
  a : Option Addr
  cap : Nat

def c1 (e : E) : List Value := [.int .i64 e.t.kind, .string e.t.name, .slice e.a e.t.attrs.length e.cap, .string e.t.text]

def cs (es : List E) : List Value := es.flatMap c1

theorem cs_app (es fs : List E) : cs (es ++ fs) = cs es ++ cs fs := by unfold cs; rw [List.flatMap_append]

theorem cs_one (e : E) : cs [e] = c1 e := by simp [cs]

theorem cs_len (es : List E) : (cs es).length = es.length * 4 := by
  induction es with
  | nil => rfl
  | cons x es ih => show (cs es).length + 4 = _; rw [ih, List.length_cons]; omega

theorem cs_cell (es : List E) : ∀ u ∈ cs es, u.oneCell' = true := by
  intro u hu
  unfold cs at hu
  obtain ⟨e, _, he⟩ := List.mem_flatMap.1 hu
  simp [c1] at he
  rcases he with rfl | rfl | rfl | rfl <;> rfl

theorem cs_get (es : List E) (j : Nat) (h : j < es.length) : (cs es)[j * 4]? = some (.int .i64 es[j].t.kind) ∧ (cs es)[j * 4 + 1]? = some (.string es[j].t.name)
    ∧ (cs es)[j * 4 + 2]? = some (.slice es[j].a es[j].t.attrs.length es[j].cap) ∧ (cs es)[j * 4 + 3]? = some (.string es[j].t.text) := by
  induction es generalizing j with
  | nil => simp at h
  | cons x es ih =>
    have e : cs (x :: es) = .int .i64 x.t.kind :: .string x.t.name :: .slice x.a x.t.attrs.length x.cap :: .string x.t.text :: cs es := rfl
    rw [e]
    match j with
    | 0 => exact ⟨rfl, rfl, rfl, rfl⟩
    | j + 1 =>
      have := ih j (by simpa using h)
      rw [show (j + 1) * 4 = j * 4 + 1 + 1 + 1 + 1 by omega]
      exact this

/-- The lists of these two lie in two blocks. -/
def Apart (e f : E) : Prop := 0 < e.t.attrs.length → 0 < f.t.attrs.length → ∀ g o g' o', e.a = some ⟨g, o, none⟩ → f.a = some ⟨g', o', none⟩ → ¬ g = g'

/-- The row so far: from B on. -/
structure Row (w : World) (B : Nat) (v : Value) (es : List E) : Prop where
  own : w.ownsRow B 49 4 v es.length (cs es)
  ats : ∀ e ∈ es, OwnAts w B e.a e.t.attrs ∧ ∀ g o, 0 < e.t.attrs.length → e.a = some ⟨g, o, none⟩ → ¬ v.ownBlock = some g
  apart : es.Pairwise Apart

theorem Row.below {w w' : World} {B : Nat} {v : Value} {es : List E} (h : Row w B v es) (hb : Below w.heap.size w w') : Row w' B v es :=
  ⟨ownsRow_below h.own hb, fun e he => ⟨(h.ats e he).1.below hb, (h.ats e he).2⟩, h.apart⟩

theorem Row.mono {w : World} {B B' : Nat} {v : Value} {es : List E} (h : Row w B' v es) (hB : B ≤ B') : Row w B v es := by
  refine ⟨⟨h.own.1, ?_⟩, fun e he => ⟨fun hl => ?_, (h.ats e he).2⟩, h.apart⟩
  · rcases h.own.2 with h' | ⟨g, cap, cur, h1, h2, h3⟩
    · exact .inl h'
    · exact .inr ⟨g, cap, cur, h1, Nat.le_trans hB h2, h3⟩
  · obtain ⟨g, o, cu, e1, e2, e3⟩ := (h.ats e he).1 hl
    exact ⟨g, o, cu, e1, Nat.le_trans hB e2, e3⟩

theorem Row.start (w : World) (B g : Nat) (hB : B ≤ g) (hh : w.heap[g]? = some (.cells #[] 49 (0, 0))) : Row w B (.slice (some ⟨g, 0, none⟩) 0 0) [] :=
  ⟨⟨rfl, .inr ⟨g, 0, #[], rfl, hB, hh, Nat.le_refl _, Nat.zero_le _, rfl, rfl⟩⟩, fun e he => absurd he List.not_mem_nil, List.Pairwise.nil⟩

theorem Row.start0 (w : World) (B : Nat) : Row w B (.slice none 0 0) [] :=
  ⟨World.ownsRow_nil _ _ _ _, fun e he => absurd he List.not_mem_nil, List.Pairwise.nil⟩

/-- A row of one, made at once. -/
theorem Row.one {w : World} {B g : Nat} {e : E} (hB : B ≤ g) (hh : w.heap[g]? = some (.cells #[.int .i64 e.t.kind, .string e.t.name, .slice e.a e.t.attrs.length e.cap, .string e.t.text] 49 (0, 0))) (ha : OwnAts w B e.a e.t.attrs) (hne : ∀ g' o, 0 < e.t.attrs.length → e.a = some ⟨g', o, none⟩ → ¬ g' = g) :
    Row w B (.slice (some ⟨g, 0, none⟩) 1 1) [e] :=
  ⟨⟨rfl, .inr ⟨g, 1, _, rfl, hB, hh, Nat.le_refl _, by decide, rfl, rfl⟩⟩, fun x hx => by
    rw [List.mem_singleton] at hx
    subst hx
    exact ⟨ha, fun g' o hl e1 e2 => hne g' o hl e1 (by simp [Value.ownBlock] at e2; exact e2.symm)⟩, List.pairwise_singleton _ _⟩

theorem Row.slice {w : World} {B : Nat} {v : Value} {es : List E} (h : Row w B v es) : ∃ a c, v = .slice a es.length c := by
  rcases h.own.2 with ⟨rfl, h0⟩ | ⟨g, cap, _, rfl, _⟩
  · exact ⟨none, 0, by rw [h0]⟩
  · exact ⟨_, cap, rfl⟩

theorem Row.tkRow {w : World} {B : Nat} {v : Value} {es : List E} (h : Row w B v es) : ∃ a cap, v = .slice a es.length cap ∧ TkRow w a (es.map (·.t)) := by
  rcases h.own.2 with ⟨rfl, h0⟩ | ⟨g, cap, cur, rfl, hg, hh, hn, hc, hs, ht⟩
  · exact ⟨none, 0, by rw [h0], fun j hj => by rw [List.length_map] at hj; omega⟩
  · refine ⟨some ⟨g, 0, none⟩, cap, rfl, fun j hj => ?_⟩
    rw [List.length_map] at hj
    obtain ⟨k0, k1, k2, k3⟩ := cs_get es j hj
    have hx : ∀ k u, (cs es)[k]? = some u → w.cell? ⟨g, 0 + k, none⟩ = some u := by
      intro k u hk
      rw [Lib.cell_of_heap hh, Nat.zero_add, ← Array.getElem?_toList]
      rw [← ht, List.getElem?_take] at hk
      split at hk
      · exact hk
      · cases hk
    rw [List.getElem_map]
    exact ⟨g, 0, es[j].a, es[j].cap, rfl, lt_of_heap hh, hx _ _ k0, hx _ _ k1, hx _ _ k2, hx _ _ k3, (h.ats _ (List.getElem_mem hj)).1.atRow⟩

theorem Row.join {w w' : World} {B : Nat} {v v' : Value} {es fs : List E} (h : Row w B v es)
    (hf : ∀ e ∈ fs, OwnAts w B e.a e.t.attrs ∧ ∀ g o, 0 < e.t.attrs.length → e.a = some ⟨g, o, none⟩ → ¬ v.ownBlock = some g) (hp : fs.Pairwise Apart) (hx : ∀ e ∈ es, ∀ f ∈ fs, Apart e f)
    (ho : w'.ownsRow B 49 4 v' (es.length + fs.length) (cs es ++ cs fs)) (hgr : w.grownBy w' v.ownBlock) (hw : v'.ownBlock = v.ownBlock ∨ v'.ownBlock = some w.heap.size) : Row w' B v' (es ++ fs) := by
  have key : ∀ e : E, (OwnAts w B e.a e.t.attrs ∧ ∀ g o, 0 < e.t.attrs.length → e.a = some ⟨g, o, none⟩ → ¬ v.ownBlock = some g) → OwnAts w' B e.a e.t.attrs ∧ ∀ g o, 0 < e.t.attrs.length → e.a = some ⟨g, o, none⟩ → ¬ v'.ownBlock = some g := by
    rintro e ⟨h1, h2⟩
    refine ⟨fun hl => ?_, fun g o hl hg x => ?_⟩
    · obtain ⟨g, o, cu, e1, e2, e3, e4⟩ := h1 hl
      exact ⟨g, o, cu, e1, e2, (hgr.block g (lt_of_heap e3) (fun x => h2 g o hl e1 x.symm)).trans e3, e4⟩
    · rcases hw with hw | hw
      · exact h2 g o hl hg (hw.symm.trans x)
      · rw [hw] at x
        simp only [Option.some.injEq] at x
        obtain ⟨g2, o2, cu, e1, _, e3, _⟩ := h1 hl
        rw [hg] at e1
        cases e1
        have := lt_of_heap e3
        omega
  refine ⟨by rw [List.length_append, cs_app]; exact ho, fun e he => ?_, List.pairwise_append.2 ⟨h.apart, hp, hx⟩⟩
  rcases List.mem_append.1 he with h' | h'
  · exact key e (h.ats e h')
  · exact key e (hf e h')

/-- Of what was there and what is made later. -/
theorem Row.apart_later {w w2 : World} {B B2 : Nat} {v v2 : Value} {es fs : List E} (h : Row w B v es) (k : Row w2 B2 v2 fs) (hB : w.heap.size ≤ B2) : (∀ e ∈ es, ∀ f ∈ fs, Apart e f) ∧ ∀ f ∈ fs, ∀ g o, 0 < f.t.attrs.length → f.a = some ⟨g, o, none⟩ → ¬ v.ownBlock = some g := by
  refine ⟨fun e he f hf hl hl' g o g' o' e1 e2 x => ?_, fun f hf g o hl e1 x => ?_⟩
  · subst x
    obtain ⟨g1, o1, cu, a1, _, a3, _⟩ := (h.ats e he).1 hl
    obtain ⟨g2, o2, cu2, b1, b2, _⟩ := (k.ats f hf).1 hl'
    rw [e1] at a1
    rw [e2] at b1
    cases a1
    cases b1
    have := lt_of_heap a3
    omega
  · obtain ⟨g2, o2, cu2, b1, b2, _⟩ := (k.ats f hf).1 hl
    rw [e1] at b1
    cases b1
    have := (h.own.lt g x).2
    omega

theorem Row.cells {w : World} {B : Nat} {a : Option Addr} {n c : Nat} {es : List E} (h : Row w B (.slice a n c) es) (hne : ¬ es = []) : ∃ g, a = some ⟨g, 0, none⟩ ∧ n = es.length ∧ ∀ j u, (cs es)[j]? = some u → w.cell? ((⟨g, 0, none⟩ : Addr).add j) = some u := by
  rcases h.own.2 with ⟨_, h0⟩ | ⟨g, cap, cur, e, hg, hh, hn, hc, hs, ht⟩
  · exact absurd (List.eq_nil_of_length_eq_zero h0) hne
  · cases e
    refine ⟨g, rfl, rfl, fun j u hk => ?_⟩
    rw [add_plainW, Lib.cell_of_heap hh, Nat.zero_add, ← Array.getElem?_toList]
    rw [← ht, List.getElem?_take] at hk
    split at hk
    · exact hk
    · cases hk

/-- append of such a row. -/
theorem wpL_join (w : World) {ops : Array Oper} {rest : List Oper} {o : Oper} {a : Act} {Q : Exit → Act → World → Prop} (hgd : o.guard = none) (s x : Operand)
    (ho : o.op = .call { callee := .builtin .append, args := #[s, x], argTypes := #[27, 27] }) (base : Nat) (v : Value) (es fs : List E) (hs : a.eval s = v) (hown : Row w base v es)
    (g m c : Nat) (hx : a.eval x = .slice (some ⟨g, 0, none⟩) m c) (hm : m = fs.length) (hB : ∀ j u, (cs fs)[j]? = some u → w.cell? ((⟨g, 0, none⟩ : Addr).add j) = some u)
    (hf : ∀ e ∈ fs, OwnAts w base e.a e.t.attrs ∧ ∀ g o, 0 < e.t.attrs.length → e.a = some ⟨g, o, none⟩ → ¬ v.ownBlock = some g) (hp : fs.Pairwise Apart) (hap : ∀ e ∈ es, ∀ f ∈ fs, Apart e f) (hn : es.length + fs.length ≤ 2097152) (hb : base ≤ w.heap.size)
    (h : ∀ a' c' w', Row w' base (.slice a' (es ++ fs).length c') (es ++ fs) → Below base w w' → w.grownBy w' v.ownBlock → wpList Tryz.prog ops Q rest (a.put o.dst (.slice a' (es ++ fs).length c')) w') : wpList Tryz.prog ops Q (o :: rest) a w := by
  subst hm
  obtain ⟨i0, hi, hz0, hz1, hz2⟩ := info_parts infoR
  refine wpList_append_own_at w hgd s x 27 ho base 49 i0 _ 4 64 Tryz.underlying27 hi hz0 hz1 hz2 rfl (by decide) v es.length (cs es) hs hown.own ⟨g, 0, none⟩ fs.length c (cs fs) hx (cs_len fs) hB (cs_cell fs) (by unfold maxLen; omega) (by omega) hb ?_
  intro v' w' ho' hg' _ hw'
  have hr := hown.join hf hp hap ho' hg' hw'
  obtain ⟨a', c', hv'⟩ := hr.slice
  subst hv'
  exact h a' c' w' hr ((Below.refl base w).grown hg' hb (fun k e => (hown.own.lt k e).1)) hg'

/-- .. as one step of a region that draws. -/
theorem step_join {ops : Array Oper} {o : Oper} {a : Act} {w : World} {K : Act → World → Prop} {Q : Exit → Act → World → Prop} {F : Prop} (hgd : o.guard = none) (s x : Operand)
    (ho : o.op = .call { callee := .builtin .append, args := #[s, x], argTypes := #[27, 27] }) (base : Nat) (v : Value) (es fs : List E) (hs : a.eval s = v) (hown : Row w base v es)
    (g m c : Nat) (hx : a.eval x = .slice (some ⟨g, 0, none⟩) m c) (hm : m = fs.length) (hB : ∀ j u, (cs fs)[j]? = some u → w.cell? ((⟨g, 0, none⟩ : Addr).add j) = some u)
    (hf : ∀ e ∈ fs, OwnAts w base e.a e.t.attrs ∧ ∀ g o, 0 < e.t.attrs.length → e.a = some ⟨g, o, none⟩ → ¬ v.ownBlock = some g) (hp : fs.Pairwise Apart) (hap : ∀ e ∈ es, ∀ f ∈ fs, Apart e f) (hn : es.length + fs.length ≤ 2097152) (hb : base ≤ w.heap.size)
    (h : ∀ a' c' w', Row w' base (.slice a' (es ++ fs).length c') (es ++ fs) → Below base w w' → w.grownBy w' v.ownBlock → K (a.put o.dst (.slice a' (es ++ fs).length c')) w') :
    if Region.wanted o (yielded ops a.tmps) = true then Oper.wp Tryz.prog o a w K Q else F := by
  have hw : Region.wanted o (yielded ops a.tmps) = true := by simp [Region.wanted, hgd]
  rw [if_pos hw]
  subst hm
  obtain ⟨i0, hi, hz0, hz1, hz2⟩ := info_parts infoR
  obtain ⟨v', w', hr, ho', hg', _, hw'⟩ := run_append_own_at (P := Tryz.prog) w base 27 o.type 49 i0 _ 4 64 Tryz.underlying27 hi hz0 hz1 hz2 rfl (by decide) v es.length (cs es) hown.own ⟨g, 0, none⟩ fs.length c (cs fs) (cs_len fs) hB (cs_cell fs) (by unfold maxLen; omega) (by omega) hb
  have hrow := hown.join hf hp hap ho' hg' hw'
  obtain ⟨a', c', hv'⟩ := hrow.slice
  subst hv'
  unfold Oper.wp execOp
  simp only [ho, resolve, invoke, builtin, Sem.run_bind, Sem.run_pure, Result.andThen_ok, List.map_toArray, List.map_cons, List.map_nil, hs, hx, hr]
  exact h a' c' w' hrow ((Below.refl base w).grown hg' hb (fun k e => (hown.own.lt k e).1)) hg'

end Go.Proofs.YteninofjeidljaaGreat.Tn

namespace Go.Proofs.YteninofjeidljaaGreat

open Go.RowKit

set_option linter.unusedVariables false

set_option linter.unusedSimpArgs false

/-- Where the first with this name stands, or -1. -/
def IdxIs (l : List At) (name : ByteArray) (r : Int) : Prop :=
  (r = -1 ∧ ∀ x ∈ l, ¬ x.name = name) ∨ ∃ i : Nat, ∃ h : i < l.length, r = (i : Int) ∧ l[i].name = name ∧ ∀ x ∈ l.take i, ¬ x.name = name

theorem cell_alloc {w : World} {p : Addr} {v : Value} (h : w.cell? p = some v) (hp : p.block < w.heap.size) (o : Obj) : (w.alloc o).cell? p = some v :=
  (((Below.refl w.heap.size w).alloc (Nat.le_refl _) o).cell hp).trans h

set_option maxHeartbeats 1000000 in
theorem cAttrAt1 (n v name : ByteArray) (b o : Nat) (w : World) (hp : b < w.heap.size) (hc : w.cell? ⟨b, o, none⟩ = some (.string name)) (hn : n.size ≤ 1048576) (hm : name.size ≤ 1048576) :
    Calls Tryz.prog 173 #[.agg #[.string n, .string v], .pointer (some ⟨b, o, none⟩)] w fun e w' => e = .returned (.bool (decide (n = name))) ∧ Below w.heap.size w w' := by
  have HB0 := hid ((Below.refl w.heap.size w).alloc (Nat.le_refl _) (.cells #[.string n, .string v] 114))
  have c1 := cell_alloc hc hp (.cells #[.string n, .string v] 114)
  have hd := str_beq n name
  generalize decide (n = name) = D at hd ⊢
  clear hc
  go_enter Tryz.func173, Tryz.ntmps173
  go_wp2
  go_ret
  exact ⟨rfl, HB0.out⟩

set_option maxHeartbeats 1000000 in
theorem cIndexFunc (a : Option Addr) (cap : Nat) (l : List At) (name : ByteArray) (b0 o0 : Nat) (w : World) (hR : AtRow w a l) (hz : AtSz 1048576 l) (hn : l.length ≤ 1048576) (hm : name.size ≤ 1048576)
    (hp : b0 < w.heap.size) (hc : w.cell? ⟨b0, o0, none⟩ = some (.string name)) :
    Calls Tryz.prog 172 #[.slice a l.length cap, .func (.func 173) #[] #[.pointer (some ⟨b0, o0, none⟩)]] w fun e w' => ∃ r : Int, e = .returned (.int .i64 r) ∧ IdxIs l name r ∧ Below w.heap.size w w' := by
  have HR := hid hR
  have HZ := hid hz
  have HC := hid hc
  have HP := hid hp
  clear hR hz hc hp
  obtain ⟨n, hnn⟩ : ∃ n, l.length = n := ⟨_, rfl⟩
  have HN := hid hnn
  rw [hnn] at hn ⊢
  clear hnn
  go_enter Tryz.func172, Tryz.ntmps172
  go_wp2
  go_loopw [8] (fun k wr => ∃ i : Nat, k = .int .i64 (i : Int) ∧ i ≤ n ∧ Hid (∀ x ∈ l.take i, ¬ x.name = name) ∧ Hid (Below w.heap.size w wr)) (fun k _ => n - (intOf k).toNat)
  case atStart => exact ⟨0, rfl, Nat.zero_le _, fun x hx => by simp at hx, Below.refl _ _⟩
  case round =>
    obtain ⟨i, rfl, hi, HO, HB⟩ := hrel
    by_cases hlt : i < n
    · have his : i < l.length := by rw [HN.out]; exact hlt
      obtain ⟨b, o, rfl, hb, c1, c2⟩ := HR.out.below HB.out i his
      have hin : (i : Int) < (n : Int) := by omega
      have HT := hid (take_snocN his)
      have z1 := (HZ.out _ (List.getElem_mem his)).1
      have HS := hid HB.out.size
      have HCr := hid ((HB.out.cell (p := ⟨b0, o0, none⟩) HP.out).trans HC.out)
      have C := hid (cAttrAt1 l[i].name l[i].value name b0 o0 wr (Nat.lt_of_lt_of_le HP.out HS.out) HCr.out z1 hm)
      by_cases hq : l[i].name = name
      · have HI := hid (show IdxIs l name (i : Int) from .inr ⟨i, his, rfl, hq, HO.out⟩)
        have e0 : decide (l[i].name = name) = true := decide_eq_true hq
        rw [e0] at C
        generalize l[i].name = x at *
        generalize l[i].value = y at *
        clear hq e0
        go_wp2_with fail
        refine C.out.mono ?_
        rintro e w1 ⟨rfl, hb1⟩
        have HB1 := hid (bb HB.out hb1)
        go_wp2
        go_ret
        exact ⟨_, rfl, HI.out, HB1.out⟩
      · have HO2 := hid (show ∀ x ∈ l.take (i + 1), ¬ x.name = name by
          rw [HT.out]
          intro x hx
          rcases List.mem_append.1 hx with h | h
          · exact HO.out x h
          · rw [List.mem_singleton] at h
            subst h
            exact hq)
        have e0 : decide (l[i].name = name) = false := decide_eq_false hq
        rw [e0] at C
        generalize l[i].name = x at *
        generalize l[i].value = y at *
        clear hq e0
        go_wp2_with fail
        refine C.out.mono ?_
        rintro e w1 ⟨rfl, hb1⟩
        have HB1 := hid (bb HB.out hb1)
        go_wp2
        go_roundw
        case rel => exact ⟨i + 1, by go_num, by omega, HO2.out, HB1.out⟩
        case measure => simp [intOf]; omega
    · have hie : i = n := by omega
      subst hie
      have h1 := HO.out
      rw [List.take_of_length_le (by rw [HN.out]; exact Nat.le_refl _)] at h1
      have HI := hid (show IdxIs l name (-1) from .inl ⟨rfl, h1⟩)
      clear h1
      go_wp2
      go_ret
      exact ⟨_, rfl, HI.out, HB.out⟩

set_option maxHeartbeats 1000000 in
theorem cAttrAt (a : Option Addr) (cap : Nat) (l : List At) (name : ByteArray) (w : World) (hR : AtRow w a l) (hz : AtSz 1048576 l) (hn : l.length ≤ 1048576) (hm : name.size ≤ 1048576) :
    Calls Tryz.prog 148 #[.slice a l.length cap, .string name] w fun e w' => ∃ r : Int, e = .returned (.int .i64 r) ∧ IdxIs l name r ∧ Below w.heap.size w w' := by
  have hmf : ∀ (fn : Fn) (first cap : Array Value) (w : World), (Instr.makeFunc fn first cap).run Tryz.prog w = .ok (.func fn first cap) w := fun _ _ _ _ => rfl
  have HB0 := hid ((Below.refl w.heap.size w).alloc (Nat.le_refl _) (.cells #[.string name] 9))
  have C := hid (cIndexFunc a cap l name w.heap.size 0 (w.alloc (.cells #[.string name] 9)) (hR.below HB0.out) hz hn hm (by simp) (by simp [go_sem]))
  clear hR hz
  generalize l.length = n at *
  go_enter Tryz.func148, Tryz.ntmps148
  go_wp2_with fail
  refine C.out.mono ?_
  rintro e w1 ⟨r, rfl, hr, hb1⟩
  have HI := hid hr
  have HB1 := hid (bb HB0.out hb1)
  clear hr hb1
  go_wp2
  go_ret
  exact ⟨_, rfl, HI.out, HB1.out⟩

end Go.Proofs.YteninofjeidljaaGreat

namespace Go.Proofs.YteninofjeidljaaGreat

open Go.RowKit

set_option linter.unusedVariables false

set_option linter.unusedSimpArgs false

theorem cValueOkI (s : ByteArray) (w : World) (hs : s.size ≤ 1048576) :
    Calls Tryz.prog 108 #[.string s] w fun e w' => e = .returned (.bool (decide (s.size ≤ 60) && plainL s.data.toList)) ∧ w' = w := by
  have CP := fun w => c_impl_PlainOk s w (by unfold maxLen; omega)
  by_cases q : s.size ≤ 60
  · rw [decide_eq_true q, Bool.true_and]
    have hd : decide ((s.size : Int) ≤ 60) = true := by simp; omega
    go_enter Tryz.func108, Tryz.ntmps108
    go_wp2_with fail
    refine (CP _).mono ?_
    rintro e w1 ⟨rfl, rfl⟩
    go_wp2_with fail
    go_ret
    exact ⟨rfl, rfl⟩
  · rw [decide_eq_false q, Bool.false_and]
    have hd : decide ((s.size : Int) ≤ 60) = false := by simp; omega
    clear CP
    go_enter Tryz.func108, Tryz.ntmps108
    go_wp2_with fail
    go_ret
    exact ⟨rfl, rfl⟩

theorem box2c {w : World} {g : Nat} {x y : Value} {T : TypeId} (h : w.heap[g]? = some (.cells #[x, y] T (0, 0))) : w.cell? ⟨g, 0, none⟩ = some x ∧ w.cell? ⟨g, 1, none⟩ = some y :=
  ⟨by rw [Lib.cell_of_heap h]; rfl, by rw [Lib.cell_of_heap h]; rfl⟩

set_option maxRecDepth 8000 in
set_option maxHeartbeats 4000000 in
theorem cAttrsOkI (a : Option Addr) (cap : Nat) (l : List At) (w : World) (hR : AtRow w a l) (hz : AtSz 1048576 l) (hn : l.length ≤ 1048576) :
    Calls Tryz.prog 107 #[.slice a l.length cap] w fun e w' => e = .returned (.bool (attrsB l)) ∧ Below w.heap.size w w' := by
  obtain ⟨V, hV⟩ : ∃ V, attrsB l = V := ⟨_, rfl⟩
  have HV := hid hV
  rw [hV]
  have HF : Hid (¬ AttrsOk l → V = false) := fun h => by rw [← HV.out]; exact attrsB_f h
  have HT : Hid (AttrsOk l → V = true) := fun h => by rw [← HV.out]; exact attrsB_t h
  clear hV HV
  have HR := hid hR
  have HZ := hid hz
  have HC := hid (fun (w : World) (hR : AtRow w a l) name (hm : name.size ≤ 1048576) => cAttrAt a cap l name w hR hz hn hm)
  clear hR hz
  obtain ⟨n, hnn⟩ : ∃ n, l.length = n := ⟨_, rfl⟩
  have HN := hid hnn
  rw [hnn] at hn HC ⊢
  clear hnn
  by_cases h6 : n ≤ 6
  · have d6 : decide ((6 : Int) < (n : Int)) = false := by simp; omega
    go_enter Tryz.func107, Tryz.ntmps107
    go_wp2
    go_loopw [10] (fun k wr => ∃ i : Nat, k = .int .i64 (i : Int) ∧ i ≤ n ∧ Hid (AtsOk i l) ∧ Hid (Below w.heap.size w wr)) (fun k _ => n - (intOf k).toNat)
    case atStart => exact ⟨0, rfl, Nat.zero_le _, ⟨fun j _ h => by omega, fun i j _ _ h => by omega⟩, Below.refl _ _⟩
    case round =>
      obtain ⟨i, rfl, hi, HA, HB⟩ := hrel
      by_cases hlt : i < n
      · have his : i < l.length := by rw [HN.out]; exact hlt
        have hin : (i : Int) < (n : Int) := by omega
        obtain ⟨b, o, rfl, hb, c1, c2⟩ := HR.out.below HB.out i his
        obtain ⟨z1, z2⟩ := HZ.out _ (List.getElem_mem his)
        have CN := hid (fun w => c_impl_NameOk l[i].name w z1)
        have CV := hid (fun w => cValueOkI l[i].value w z2)
        have M := hid (heap_alloc_new wr (.cells #[.string l[i].name, .string l[i].value] 114))
        have HB0 := hid (HB.out.alloc HB.out.size (.cells #[.string l[i].name, .string l[i].value] 114))
        cases q1 : nameL l[i].name.data.toList
        · have HW := hid (HF.out (fun h => by have := (h.2.1 i his (by rw [HN.out]; exact hlt)).1; rw [q1] at this; cases this))
          rw [q1] at CN
          generalize l[i].name = x at *
          generalize l[i].value = y at *
          clear CV HC
          go_wp2_with fail
          refine (CN.out _).mono ?_
          rintro e w1 ⟨rfl, hb1⟩
          have HB1 := hid (bb HB0.out hb1)
          clear hb1 c1 c2 CN
          go_wp2_with fail
          go_ret
          exact ⟨by rw [HW.out]; rfl, HB1.out⟩
        · cases q2 : (decide (l[i].value.size ≤ 60) && plainL l[i].value.data.toList)
          · have HW := hid (HF.out (fun h => by
              obtain ⟨_, k1, k2⟩ := h.2.1 i his (by rw [HN.out]; exact hlt)
              rw [k1, decide_eq_true k2] at q2
              cases q2))
            rw [q1] at CN
            rw [q2] at CV
            generalize l[i].name = x at *
            generalize l[i].value = y at *
            clear HC
            go_wp2_with fail
            refine (CN.out _).mono ?_
            rintro e w1 ⟨rfl, hb1⟩
            have HB1 := hid (bb HB0.out hb1)
            obtain ⟨x0, x1⟩ := box2c (blk_below M.out hb1)
            clear hb1 c1 c2 CN
            go_wp2_with fail
            refine (CV.out _).mono ?_
            rintro e w2 ⟨rfl, rfl⟩
            go_wp2_with fail
            go_ret
            exact ⟨by rw [HW.out]; rfl, HB1.out⟩
          · have HOK := hid (show atOk l[i] from ⟨q1, by
              simp only [Bool.and_eq_true, decide_eq_true_eq] at q2
              exact ⟨q2.2, q2.1⟩⟩)
            rw [q1] at CN
            rw [q2] at CV
            obtain ⟨x, hx⟩ : ∃ x, l[i].name = x := ⟨_, rfl⟩
            obtain ⟨y, hy⟩ : ∃ y, l[i].value = y := ⟨_, rfl⟩
            have HX := hid hx
            rw [hx] at c1 CN z1 M HB0
            rw [hy] at c2 CV z2 M HB0
            have HCx := hid (fun w1 (h : Below w.heap.size w w1) => HC.out w1 (HR.out.below h) x z1)
            clear hx hy q1 q2 HC
            go_wp2_with fail
            refine (CN.out _).mono ?_
            rintro e w1 ⟨rfl, hb1⟩
            have HB1 := hid (bb HB0.out hb1)
            obtain ⟨x0, x1⟩ := box2c (blk_below M.out hb1)
            clear hb1 c1 c2 CN
            go_wp2_with fail
            refine (CV.out _).mono ?_
            rintro e w2 ⟨rfl, rfl⟩
            go_wp2_with fail
            refine (HCx.out _ HB1.out).mono ?_
            rintro e w3 ⟨r, rfl, hr, hb3⟩
            have HB3 := hid (bb HB1.out hb3)
            clear hb3 x0 x1
            rcases hr with ⟨_, h1⟩ | ⟨j, hj, rfl, hq, h1⟩
            · exact absurd HX.out (h1 _ (List.getElem_mem his))
            · have hji : j ≤ i := by
                rcases Nat.lt_or_ge i j with h' | h'
                · exact absurd HX.out (h1 l[i] (List.mem_take_iff_getElem.2 ⟨i, by omega, rfl⟩))
                · exact h'
              rcases Nat.lt_or_eq_of_le hji with h' | rfl
              · have HW := hid (HF.out (fun h => h.2.2 i j his h' (by rw [HN.out]; exact hlt) (by rw [hq, HX.out])))
                have hd : ((j : Int) == (i : Int)) = false := by simp; omega
                clear hq h1 hj hji h'
                go_wp2_with fail
                go_ret
                exact ⟨by rw [HW.out]; rfl, HB3.out⟩
              · have HA2 := hid (HA.out.next his HOK.out (fun m hm => by
                  intro e
                  exact h1 l[m] (List.mem_take_iff_getElem.2 ⟨m, by omega, rfl⟩) (e.trans HX.out)))
                clear hq h1 hj hji
                go_wp2_with fail
                go_roundw
                case rel => exact ⟨j + 1, by go_num, by omega, HA2.out, HB3.out⟩
                case measure => simp [intOf]; omega
      · have hie : i = n := by omega
        subst hie
        have HW := hid (HT.out ⟨by rw [HN.out]; exact h6, by rw [HN.out]; exact HA.out⟩)
        go_wp2_with fail
        go_ret
        exact ⟨by rw [HW.out]; rfl, HB.out⟩
  · have d6 : decide ((6 : Int) < (n : Int)) = true := by simp; omega
    have HW := hid (HF.out (fun h => h6 (by have := h.1; rw [HN.out] at this; exact this)))
    go_enter Tryz.func107, Tryz.ntmps107
    go_wp2
    go_ret
    exact ⟨by rw [HW.out]; rfl, Below.refl _ _⟩

set_option maxRecDepth 8000 in
set_option maxHeartbeats 2000000 in
theorem cTokenOkI (t : Tk) (a : Option Addr) (cap : Nat) (w : World) (hR : AtRow w a t.attrs) (hz : TkSz 1048576 t) :
    Calls Tryz.prog 60 #[tkV t a cap] w fun e w' => e = .returned (.bool (tokB t)) ∧ Below w.heap.size w w' := by
  obtain ⟨k, name, l, text⟩ := t
  obtain ⟨h1, h2, h3, h4⟩ := hz
  simp only at hR h1 h2 h3 h4
  have HB0 := hid ((Below.refl w.heap.size w).alloc (Nat.le_refl _) (.cells #[.int .i64 k, .string name, .slice a l.length cap, .string text] 49))
  have HR := hid (hR.below HB0.out)
  have CN := fun w => c_impl_NameOk name w h1
  have CA := fun (w : World) (hR : AtRow w a l) => cAttrsOkI a cap l w hR h3 h2
  have CX := fun w => cValueOkI text w h4
  have E1 := empty_is name
  have E2 := empty_is text
  obtain ⟨V, hV⟩ : ∃ V, tokB ⟨k, name, l, text⟩ = V := ⟨_, rfl⟩
  have HV := hid hV
  rw [hV]
  clear hV hR h3
  simp only [tkV]
  obtain ⟨n, hn⟩ : ∃ n, l.length = n := ⟨_, rfl⟩
  have HN := hid hn
  rw [hn] at CA HB0 HR h2 ⊢
  clear hn
  have E3 : ((n : Int) == 0) = decide (n = 0) := by
    by_cases h : n = 0
    · subst h; rfl
    · rw [decide_eq_false h]; simp; omega
  by_cases k1 : k = 1
  · subst k1
    have hv := HV.out
    unfold tokB at hv
    simp only [if_true] at hv
    cases q1 : nameL name.data.toList
    · rw [q1] at hv CN
      have HW := hid (show V = false from hv.symm)
      clear hv CA CX
      go_enter Tryz.func60, Tryz.ntmps60
      go_wp2_with fail
      refine (CN _).mono ?_
      rintro e w1 ⟨rfl, hb1⟩
      have HB1 := hid (bb HB0.out hb1)
      go_wp2_with fail
      go_ret
      exact ⟨by rw [HW.out]; rfl, HB1.out⟩
    · rw [q1, Bool.true_and] at hv
      rw [q1] at CN
      cases q2 : attrsB l
      · rw [q2] at hv CA
        have HW := hid (show V = false from hv.symm)
        clear hv CX
        go_enter Tryz.func60, Tryz.ntmps60
        go_wp2_with fail
        refine (CN _).mono ?_
        rintro e w1 ⟨rfl, hb1⟩
        obtain ⟨hc, hf⟩ := bcell hb1
        have HB1 := hid (bb HB0.out hb1)
        have HR1 := hid (HR.out.below hb1)
        go_wp2_with fail
        refine (CA _ HR1.out).mono ?_
        rintro e w2 ⟨rfl, hb2⟩
        have HB2 := hid (bb HB1.out hb2)
        go_wp2_with fail
        go_ret
        exact ⟨by rw [HW.out]; rfl, HB2.out⟩
      · rw [q2, Bool.true_and] at hv
        rw [q2] at CA
        have HW := hid hv
        rw [hv] at E2
        clear hv CX
        go_enter Tryz.func60, Tryz.ntmps60
        go_wp2_with fail
        refine (CN _).mono ?_
        rintro e w1 ⟨rfl, hb1⟩
        obtain ⟨hc, hf⟩ := bcell hb1
        have HB1 := hid (bb HB0.out hb1)
        have HR1 := hid (HR.out.below hb1)
        have hz1 : w.heap.size < w1.heap.size := by have := hb1.size; simp at this; omega
        go_wp2_with fail
        refine (CA _ HR1.out).mono ?_
        rintro e w2 ⟨rfl, hb2⟩
        obtain ⟨hc2, hf2⟩ := bcell hb2
        have HB2 := hid (bb HB1.out hb2)
        go_wp2_with fail
        go_ret
        exact ⟨rfl, HB2.out⟩
  · by_cases k2 : k = 2
    · subst k2
      have hv := HV.out
      unfold tokB at hv
      simp only [show ¬ ((2 : Int) = 1) by decide, if_false, if_true] at hv
      rw [HN.out] at hv
      cases q1 : nameL name.data.toList
      · rw [q1] at hv CN
        have HW := hid (show V = false from hv.symm)
        clear hv CA CX
        go_enter Tryz.func60, Tryz.ntmps60
        go_wp2_with fail
        refine (CN _).mono ?_
        rintro e w1 ⟨rfl, hb1⟩
        have HB1 := hid (bb HB0.out hb1)
        go_wp2_with fail
        go_ret
        exact ⟨by rw [HW.out]; rfl, HB1.out⟩
      · rw [q1, Bool.true_and] at hv
        rw [q1] at CN
        cases q2 : decide (n = 0)
        · rw [q2] at hv E3
          have HW := hid (show V = false from hv.symm)
          clear hv CX CA
          go_enter Tryz.func60, Tryz.ntmps60
          go_wp2_with fail
          refine (CN _).mono ?_
          rintro e w1 ⟨rfl, hb1⟩
          obtain ⟨hc, hf⟩ := bcell hb1
          have HB1 := hid (bb HB0.out hb1)
          go_wp2_with fail
          go_ret
          exact ⟨by rw [HW.out]; rfl, HB1.out⟩
        · rw [q2, Bool.true_and] at hv
          rw [q2] at E3
          rw [hv] at E2
          clear hv CX CA
          go_enter Tryz.func60, Tryz.ntmps60
          go_wp2_with fail
          refine (CN _).mono ?_
          rintro e w1 ⟨rfl, hb1⟩
          obtain ⟨hc, hf⟩ := bcell hb1
          have HB1 := hid (bb HB0.out hb1)
          go_wp2_with fail
          go_ret
          exact ⟨rfl, HB1.out⟩
    · by_cases k3 : k = 3
      · subst k3
        have hv := HV.out
        unfold tokB at hv
        simp only [show ¬ ((3 : Int) = 1) by decide, show ¬ ((3 : Int) = 2) by decide, if_false, if_true] at hv
        rw [HN.out] at hv
        cases q1 : decide (name.size = 0)
        · rw [q1] at hv E1
          have HW := hid (show V = false from hv.symm)
          clear hv CA CX CN
          go_enter Tryz.func60, Tryz.ntmps60
          go_wp2_with fail
          go_ret
          exact ⟨by rw [HW.out]; rfl, HB0.out⟩
        · rw [q1, Bool.true_and] at hv
          rw [q1] at E1
          cases q2 : decide (n = 0)
          · rw [q2] at hv E3
            have HW := hid (show V = false from hv.symm)
            clear hv CX CA CN
            go_enter Tryz.func60, Tryz.ntmps60
            go_wp2_with fail
            go_ret
            exact ⟨by rw [HW.out]; rfl, HB0.out⟩
          · rw [q2, Bool.true_and] at hv
            rw [q2] at E3
            cases q3 : decide (text.size = 0)
            · rw [q3] at E2
              have q3' : ¬ text.size = 0 := of_decide_eq_false q3
              have e1 : textB text = (decide (text.size ≤ 60) && plainL text.data.toList) := by
                unfold textB
                rw [Bool.and_comm]
                congr 1
                rw [decide_eq_decide]
                omega
              rw [e1] at hv
              rw [hv] at CX
              clear hv CA CN e1
              go_enter Tryz.func60, Tryz.ntmps60
              go_wp2_with fail
              refine (CX _).mono ?_
              rintro e w1 ⟨rfl, rfl⟩
              go_wp2_with fail
              go_ret
              exact ⟨rfl, HB0.out⟩
            · rw [q3] at E2
              have q3' : text.size = 0 := of_decide_eq_true q3
              have e1 : textB text = false := by
                unfold textB
                rw [decide_eq_false (by omega), Bool.and_false]
              rw [e1] at hv
              have HW := hid hv
              clear hv CA CN CX e1
              go_enter Tryz.func60, Tryz.ntmps60
              go_wp2_with fail
              go_ret
              exact ⟨by rw [← HW.out]; rfl, HB0.out⟩
      · have hv := HV.out
        unfold tokB at hv
        simp only [k1, k2, k3, if_false] at hv
        have HW := hid (show V = false from hv.symm)
        have d1 : (k == 1) = false := by simpa using k1
        have d2 : (k == 2) = false := by simpa using k2
        have d3 : (k == 3) = false := by simpa using k3
        clear hv CA CX CN
        go_enter Tryz.func60, Tryz.ntmps60
        go_wp2_with fail
        go_ret
        exact ⟨by rw [HW.out]; rfl, HB0.out⟩

end Go.Proofs.YteninofjeidljaaGreat
