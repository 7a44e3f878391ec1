/- A row of nodes that grows, every list of it in a block of its own. Marks in a row of tokens: set, and held. Marks in a row of nodes: set, and held. -/
import Derived.Test.YtkejmifkjgpdjaaGreatM9
namespace Go.Proofs.YtkejmifkjgpdjaaGreat.Nd
open Go.RowKit
set_option linter.unusedVariables false
set_option linter.unusedSimpArgs false

theorem infoR : (Tryz.prog.info? 44).map (fun i => (i.zero, i.size, i.bytes)) = some (some (.agg #[.int .i64 0, .string ⟨#[]⟩, .slice none 0 0, .string ⟨#[]⟩]), 4, 64) := by kernel_rfl

/-- One of the row, and where its attrs lie. -/
structure E where
  t : Tk
  a : Option Addr
  cap : Nat

def c1 (e : E) : List Value := [.int .i64 e.t.kind, .string e.t.name, .slice e.a e.t.attrs.length e.cap, .string e.t.text]

def cs (es : List E) : List Value := es.flatMap c1

theorem cs_app (es fs : List E) : cs (es ++ fs) = cs es ++ cs fs := by unfold cs; rw [List.flatMap_append]

theorem cs_one (e : E) : cs [e] = c1 e := by simp [cs]

theorem cs_len (es : List E) : (cs es).length = es.length * 4 := by
  induction es with
  | nil => rfl
  | cons x es ih => show (cs es).length + 4 = _; rw [ih, List.length_cons]; omega

theorem cs_cell (es : List E) : ∀ u ∈ cs es, u.oneCell' = true := by
  intro u hu
  unfold cs at hu
  obtain ⟨e, _, he⟩ := List.mem_flatMap.1 hu
  simp [c1] at he
  rcases he with rfl | rfl | rfl | rfl <;> rfl

theorem cs_get (es : List E) (j : Nat) (h : j < es.length) : (cs es)[j * 4]? = some (.int .i64 es[j].t.kind) ∧ (cs es)[j * 4 + 1]? = some (.string es[j].t.name)
    ∧ (cs es)[j * 4 + 2]? = some (.slice es[j].a es[j].t.attrs.length es[j].cap) ∧ (cs es)[j * 4 + 3]? = some (.string es[j].t.text) := by
  induction es generalizing j with
  | nil => simp at h
  | cons x es ih =>
    have e : cs (x :: es) = .int .i64 x.t.kind :: .string x.t.name :: .slice x.a x.t.attrs.length x.cap :: .string x.t.text :: cs es := rfl
    rw [e]
    match j with
    | 0 => exact ⟨rfl, rfl, rfl, rfl⟩
    | j + 1 =>
      have := ih j (by simpa using h)
      rw [show (j + 1) * 4 = j * 4 + 1 + 1 + 1 + 1 by omega]
      exact this

/-- The lists of these two lie in two blocks. -/
def Apart (e f : E) : Prop := 0 < e.t.attrs.length → 0 < f.t.attrs.length → ∀ g o g' o', e.a = some ⟨g, o, none⟩ → f.a = some ⟨g', o', none⟩ → ¬ g = g'

/-- The row so far: from B on. -/
structure Row (w : World) (B : Nat) (v : Value) (es : List E) : Prop where
  own : w.ownsRow B 44 4 v es.length (cs es)
  ats : ∀ e ∈ es, OwnAts w B e.a e.t.attrs ∧ ∀ g o, 0 < e.t.attrs.length → e.a = some ⟨g, o, none⟩ → ¬ v.ownBlock = some g
  apart : es.Pairwise Apart

theorem Row.below {w w' : World} {B : Nat} {v : Value} {es : List E} (h : Row w B v es) (hb : Below w.heap.size w w') : Row w' B v es :=
  ⟨ownsRow_below h.own hb, fun e he => ⟨(h.ats e he).1.below hb, (h.ats e he).2⟩, h.apart⟩

theorem Row.mono {w : World} {B B' : Nat} {v : Value} {es : List E} (h : Row w B' v es) (hB : B ≤ B') : Row w B v es := by
  refine ⟨⟨h.own.1, ?_⟩, fun e he => ⟨fun hl => ?_, (h.ats e he).2⟩, h.apart⟩
  · rcases h.own.2 with h' | ⟨g, cap, cur, h1, h2, h3⟩
    · exact .inl h'
    · exact .inr ⟨g, cap, cur, h1, Nat.le_trans hB h2, h3⟩
  · obtain ⟨g, o, cu, e1, e2, e3⟩ := (h.ats e he).1 hl
    exact ⟨g, o, cu, e1, Nat.le_trans hB e2, e3⟩

theorem Row.start (w : World) (B g : Nat) (hB : B ≤ g) (hh : w.heap[g]? = some (.cells #[] 44 (0, 0))) : Row w B (.slice (some ⟨g, 0, none⟩) 0 0) [] :=
  ⟨⟨rfl, .inr ⟨g, 0, #[], rfl, hB, hh, Nat.le_refl _, Nat.zero_le _, rfl, rfl⟩⟩, fun e he => absurd he List.not_mem_nil, List.Pairwise.nil⟩

theorem Row.start0 (w : World) (B : Nat) : Row w B (.slice none 0 0) [] :=
  ⟨World.ownsRow_nil _ _ _ _, fun e he => absurd he List.not_mem_nil, List.Pairwise.nil⟩

/-- A row of one, made at once. -/
theorem Row.one {w : World} {B g : Nat} {e : E} (hB : B ≤ g) (hh : w.heap[g]? = some (.cells #[.int .i64 e.t.kind, .string e.t.name, .slice e.a e.t.attrs.length e.cap, .string e.t.text] 44 (0, 0))) (ha : OwnAts w B e.a e.t.attrs) (hne : ∀ g' o, 0 < e.t.attrs.length → e.a = some ⟨g', o, none⟩ → ¬ g' = g) :
    Row w B (.slice (some ⟨g, 0, none⟩) 1 1) [e] :=
  ⟨⟨rfl, .inr ⟨g, 1, _, rfl, hB, hh, Nat.le_refl _, by decide, rfl, rfl⟩⟩, fun x hx => by
    rw [List.mem_singleton] at hx
    subst hx
    exact ⟨ha, fun g' o hl e1 e2 => hne g' o hl e1 (by simp [Value.ownBlock] at e2; exact e2.symm)⟩, List.pairwise_singleton _ _⟩

theorem Row.slice {w : World} {B : Nat} {v : Value} {es : List E} (h : Row w B v es) : ∃ a c, v = .slice a es.length c := by
  rcases h.own.2 with ⟨rfl, h0⟩ | ⟨g, cap, _, rfl, _⟩
  · exact ⟨none, 0, by rw [h0]⟩
  · exact ⟨_, cap, rfl⟩

theorem Row.tkRow {w : World} {B : Nat} {v : Value} {es : List E} (h : Row w B v es) : ∃ a cap, v = .slice a es.length cap ∧ TkRow w a (es.map (·.t)) := by
  rcases h.own.2 with ⟨rfl, h0⟩ | ⟨g, cap, cur, rfl, hg, hh, hn, hc, hs, ht⟩
  · exact ⟨none, 0, by rw [h0], fun j hj => by rw [List.length_map] at hj; omega⟩
  · refine ⟨some ⟨g, 0, none⟩, cap, rfl, fun j hj => ?_⟩
    rw [List.length_map] at hj
    obtain ⟨k0, k1, k2, k3⟩ := cs_get es j hj
    have hx : ∀ k u, (cs es)[k]? = some u → w.cell? ⟨g, 0 + k, none⟩ = some u := by
      intro k u hk
      rw [Lib.cell_of_heap hh, Nat.zero_add, ← Array.getElem?_toList]
      rw [← ht, List.getElem?_take] at hk
      split at hk
      · exact hk
      · cases hk
    rw [List.getElem_map]
    exact ⟨g, 0, es[j].a, es[j].cap, rfl, lt_of_heap hh, hx _ _ k0, hx _ _ k1, hx _ _ k2, hx _ _ k3, (h.ats _ (List.getElem_mem hj)).1.atRow⟩

theorem Row.join {w w' : World} {B : Nat} {v v' : Value} {es fs : List E} (h : Row w B v es)
    (hf : ∀ e ∈ fs, OwnAts w B e.a e.t.attrs ∧ ∀ g o, 0 < e.t.attrs.length → e.a = some ⟨g, o, none⟩ → ¬ v.ownBlock = some g) (hp : fs.Pairwise Apart) (hx : ∀ e ∈ es, ∀ f ∈ fs, Apart e f)
    (ho : w'.ownsRow B 44 4 v' (es.length + fs.length) (cs es ++ cs fs)) (hgr : w.grownBy w' v.ownBlock) (hw : v'.ownBlock = v.ownBlock ∨ v'.ownBlock = some w.heap.size) : Row w' B v' (es ++ fs) := by
  have key : ∀ e : E, (OwnAts w B e.a e.t.attrs ∧ ∀ g o, 0 < e.t.attrs.length → e.a = some ⟨g, o, none⟩ → ¬ v.ownBlock = some g) → OwnAts w' B e.a e.t.attrs ∧ ∀ g o, 0 < e.t.attrs.length → e.a = some ⟨g, o, none⟩ → ¬ v'.ownBlock = some g := by
    rintro e ⟨h1, h2⟩
    refine ⟨fun hl => ?_, fun g o hl hg x => ?_⟩
    · obtain ⟨g, o, cu, e1, e2, e3, e4⟩ := h1 hl
      exact ⟨g, o, cu, e1, e2, (hgr.block g (lt_of_heap e3) (fun x => h2 g o hl e1 x.symm)).trans e3, e4⟩
    · rcases hw with hw | hw
      · exact h2 g o hl hg (hw.symm.trans x)
      · rw [hw] at x
        simp only [Option.some.injEq] at x
        obtain ⟨g2, o2, cu, e1, _, e3, _⟩ := h1 hl
        rw [hg] at e1
        cases e1
        have := lt_of_heap e3
        omega
  refine ⟨by rw [List.length_append, cs_app]; exact ho, fun e he => ?_, List.pairwise_append.2 ⟨h.apart, hp, hx⟩⟩
  rcases List.mem_append.1 he with h' | h'
  · exact key e (h.ats e h')
  · exact key e (hf e h')

/-- Of what was there and what is made later. -/
theorem Row.apart_later {w w2 : World} {B B2 : Nat} {v v2 : Value} {es fs : List E} (h : Row w B v es) (k : Row w2 B2 v2 fs) (hB : w.heap.size ≤ B2) : (∀ e ∈ es, ∀ f ∈ fs, Apart e f) ∧ ∀ f ∈ fs, ∀ g o, 0 < f.t.attrs.length → f.a = some ⟨g, o, none⟩ → ¬ v.ownBlock = some g := by
  refine ⟨fun e he f hf hl hl' g o g' o' e1 e2 x => ?_, fun f hf g o hl e1 x => ?_⟩
  · subst x
    obtain ⟨g1, o1, cu, a1, _, a3, _⟩ := (h.ats e he).1 hl
    obtain ⟨g2, o2, cu2, b1, b2, _⟩ := (k.ats f hf).1 hl'
    rw [e1] at a1
    rw [e2] at b1
    cases a1
    cases b1
    have := lt_of_heap a3
    omega
  · obtain ⟨g2, o2, cu2, b1, b2, _⟩ := (k.ats f hf).1 hl
    rw [e1] at b1
    cases b1
    have := (h.own.lt g x).2
    omega

theorem Row.cells {w : World} {B : Nat} {a : Option Addr} {n c : Nat} {es : List E} (h : Row w B (.slice a n c) es) (hne : ¬ es = []) : ∃ g, a = some ⟨g, 0, none⟩ ∧ n = es.length ∧ ∀ j u, (cs es)[j]? = some u → w.cell? ((⟨g, 0, none⟩ : Addr).add j) = some u := by
  rcases h.own.2 with ⟨_, h0⟩ | ⟨g, cap, cur, e, hg, hh, hn, hc, hs, ht⟩
  · exact absurd (List.eq_nil_of_length_eq_zero h0) hne
  · cases e
    refine ⟨g, rfl, rfl, fun j u hk => ?_⟩
    rw [add_plainW, Lib.cell_of_heap hh, Nat.zero_add, ← Array.getElem?_toList]
    rw [← ht, List.getElem?_take] at hk
    split at hk
    · exact hk
    · cases hk

/-- append of such a row. -/
theorem wpL_join (w : World) {ops : Array Oper} {rest : List Oper} {o : Oper} {a : Act} {Q : Exit → Act → World → Prop} (hgd : o.guard = none) (s x : Operand)
    (ho : o.op = .call { callee := .builtin .append, args := #[s, x], argTypes := #[26, 26] }) (base : Nat) (v : Value) (es fs : List E) (hs : a.eval s = v) (hown : Row w base v es)
    (g m c : Nat) (hx : a.eval x = .slice (some ⟨g, 0, none⟩) m c) (hm : m = fs.length) (hB : ∀ j u, (cs fs)[j]? = some u → w.cell? ((⟨g, 0, none⟩ : Addr).add j) = some u)
    (hf : ∀ e ∈ fs, OwnAts w base e.a e.t.attrs ∧ ∀ g o, 0 < e.t.attrs.length → e.a = some ⟨g, o, none⟩ → ¬ v.ownBlock = some g) (hp : fs.Pairwise Apart) (hap : ∀ e ∈ es, ∀ f ∈ fs, Apart e f) (hn : es.length + fs.length ≤ 2097152) (hb : base ≤ w.heap.size)
    (h : ∀ a' c' w', Row w' base (.slice a' (es ++ fs).length c') (es ++ fs) → Below base w w' → w.grownBy w' v.ownBlock → wpList Tryz.prog ops Q rest (a.put o.dst (.slice a' (es ++ fs).length c')) w') : wpList Tryz.prog ops Q (o :: rest) a w := by
  subst hm
  obtain ⟨i0, hi, hz0, hz1, hz2⟩ := info_parts infoR
  refine wpList_append_own_at w hgd s x 26 ho base 44 i0 _ 4 64 Tryz.underlying26 hi hz0 hz1 hz2 rfl (by decide) v es.length (cs es) hs hown.own ⟨g, 0, none⟩ fs.length c (cs fs) hx (cs_len fs) hB (cs_cell fs) (by unfold maxLen; omega) (by omega) hb ?_
  intro v' w' ho' hg' _ hw'
  have hr := hown.join hf hp hap ho' hg' hw'
  obtain ⟨a', c', hv'⟩ := hr.slice
  subst hv'
  exact h a' c' w' hr ((Below.refl base w).grown hg' hb (fun k e => (hown.own.lt k e).1)) hg'

/-- .. as one step of a region that draws. -/
theorem step_join {ops : Array Oper} {o : Oper} {a : Act} {w : World} {K : Act → World → Prop} {Q : Exit → Act → World → Prop} {F : Prop} (hgd : o.guard = none) (s x : Operand)
    (ho : o.op = .call { callee := .builtin .append, args := #[s, x], argTypes := #[26, 26] }) (base : Nat) (v : Value) (es fs : List E) (hs : a.eval s = v) (hown : Row w base v es)
    (g m c : Nat) (hx : a.eval x = .slice (some ⟨g, 0, none⟩) m c) (hm : m = fs.length) (hB : ∀ j u, (cs fs)[j]? = some u → w.cell? ((⟨g, 0, none⟩ : Addr).add j) = some u)
    (hf : ∀ e ∈ fs, OwnAts w base e.a e.t.attrs ∧ ∀ g o, 0 < e.t.attrs.length → e.a = some ⟨g, o, none⟩ → ¬ v.ownBlock = some g) (hp : fs.Pairwise Apart) (hap : ∀ e ∈ es, ∀ f ∈ fs, Apart e f) (hn : es.length + fs.length ≤ 2097152) (hb : base ≤ w.heap.size)
    (h : ∀ a' c' w', Row w' base (.slice a' (es ++ fs).length c') (es ++ fs) → Below base w w' → w.grownBy w' v.ownBlock → K (a.put o.dst (.slice a' (es ++ fs).length c')) w') :
    if Region.wanted o (yielded ops a.tmps) = true then Oper.wp Tryz.prog o a w K Q else F := by
  have hw : Region.wanted o (yielded ops a.tmps) = true := by simp [Region.wanted, hgd]
  rw [if_pos hw]
  subst hm
  obtain ⟨i0, hi, hz0, hz1, hz2⟩ := info_parts infoR
  obtain ⟨v', w', hr, ho', hg', _, hw'⟩ := run_append_own_at (P := Tryz.prog) w base 26 o.type 44 i0 _ 4 64 Tryz.underlying26 hi hz0 hz1 hz2 rfl (by decide) v es.length (cs es) hown.own ⟨g, 0, none⟩ fs.length c (cs fs) (cs_len fs) hB (cs_cell fs) (by unfold maxLen; omega) (by omega) hb
  have hrow := hown.join hf hp hap ho' hg' hw'
  obtain ⟨a', c', hv'⟩ := hrow.slice
  subst hv'
  unfold Oper.wp execOp
  simp only [ho, resolve, invoke, builtin, Sem.run_bind, Sem.run_pure, Result.andThen_ok, List.map_toArray, List.map_cons, List.map_nil, hs, hx, hr]
  exact h a' c' w' hrow ((Below.refl base w).grown hg' hb (fun k e => (hown.own.lt k e).1)) hg'

end Go.Proofs.YtkejmifkjgpdjaaGreat.Nd

namespace Go.Proofs.YtkejmifkjgpdjaaGreat
open Go.RowKit
set_option linter.unusedVariables false
set_option linter.unusedSimpArgs false

theorem Shape.K_ge (s : Shape) (k : Nat) : ∀ j, j ≤ s.K k j := by
  intro j
  induction j with
  | zero => exact Nat.zero_le _
  | succ j ih =>
    show j + 1 ≤ s.K k j + (3 + 2 * s.len j)
    omega

theorem hold_step {s : Shape} {B i : Nat} {w w' : World} {f : Nat → Tk} {t : Tk} {cur : Array Value} (ok : s.Ok B) (h : s.Holds w f) (hi : i < s.n) (hcur : w.heap[s.R]? = some (.cells cur 113 (0, 0)))
    (hk : KeepB (fun b => b = s.R ∨ 0 < s.len i ∧ b = s.A i) w w')
    (hR : w'.heap[s.R]? = some (.cells (((cur.setIfInBounds (s.o + i * 4) (.int .i64 t.kind)).setIfInBounds (s.o + i * 4 + 1) (.string t.name)).setIfInBounds (s.o + i * 4 + 3) (.string t.text)) 113 (0, 0)))
    (hl : t.attrs.length = s.len i) (ha : 0 < s.len i → ∃ cu, w'.heap[s.A i]? = some (.cells cu 62 (0, 0)) ∧ AtCells cu (s.O i) t.attrs) : s.Holds w' (fun j => if j = i then t else f j) := by
  obtain ⟨cur0, hc0, hr⟩ := h.row
  have ec : cur0 = cur := by
    rw [hcur] at hc0
    simp at hc0
    exact hc0.symm
  subst ec
  have b3 : s.o + i * 4 + 3 < cur0.size := (Array.getElem?_eq_some_iff.1 (hr i hi).c3).1
  refine ⟨⟨_, hR, fun j hj => ?_⟩, fun j hj => ?_, fun j hj hlj => ?_⟩
  · by_cases e : j = i
    · subst e
      simp only [if_true]
      have t2 := (hr j hj).c2
      refine ⟨?_, ?_, ?_, ?_⟩
      · simp [Array.getElem?_setIfInBounds]; omega
      · simp [Array.getElem?_setIfInBounds]; omega
      · simp only [Array.getElem?_setIfInBounds]
        rw [if_neg (by omega), if_neg (by omega), if_neg (by omega), t2, h.len j hj, hl]
      · simp [Array.getElem?_setIfInBounds]; omega
    · simp only [if_neg e]
      have t0 := hr j hj
      refine ⟨?_, ?_, ?_, ?_⟩
      · simp only [Array.getElem?_setIfInBounds]; rw [if_neg (by omega), if_neg (by omega), if_neg (by omega)]; exact t0.c0
      · simp only [Array.getElem?_setIfInBounds]; rw [if_neg (by omega), if_neg (by omega), if_neg (by omega)]; exact t0.c1
      · simp only [Array.getElem?_setIfInBounds]; rw [if_neg (by omega), if_neg (by omega), if_neg (by omega)]; exact t0.c2
      · simp only [Array.getElem?_setIfInBounds]; rw [if_neg (by omega), if_neg (by omega), if_neg (by omega)]; exact t0.c3
  · by_cases e : j = i
    · subst e; simpa using hl
    · simp only [if_neg e]; exact h.len j hj
  · by_cases e : j = i
    · subst e
      simp only [if_true]
      exact ha hlj
    · simp only [if_neg e]
      obtain ⟨cu, hcu, hac⟩ := h.ats j hj hlj
      refine ⟨cu, (hk.block _ (lt_of_heap hcu) ?_).trans hcu, hac⟩
      rintro (x | ⟨x, y⟩)
      · exact (ok.at_ j hj hlj).2.2 x
      · exact ok.apart j i hj hi e hlj x y

end Go.Proofs.YtkejmifkjgpdjaaGreat

namespace Go.Proofs.YtkejmifkjgpdjaaGreat.Nd
open Go.RowKit
set_option linter.unusedVariables false
set_option linter.unusedSimpArgs false

/-- The tokens f lie there. -/
structure HoldsN (s : Shape) (w : World) (f : Nat → Tk) : Prop where
  row : ∃ cur, w.heap[s.R]? = some (.cells cur 44 (0, 0)) ∧ ∀ j, j < s.n → TkCells cur (s.o + j * 4) (f j) (s.aa j) (s.C j)
  len : ∀ j, j < s.n → (f j).attrs.length = s.len j
  ats : ∀ j, j < s.n → 0 < s.len j → ∃ cu, w.heap[s.A j]? = some (.cells cu 62 (0, 0)) ∧ AtCells cu (s.O j) (f j).attrs

theorem HoldsN.keep {s : Shape} {w w' : World} {f : Nat → Tk} {p : Nat → Prop} (h : HoldsN s w f) (k : KeepB p w w') (h1 : ¬ p s.R) (h2 : ∀ j, j < s.n → 0 < s.len j → ¬ p (s.A j)) : HoldsN s w' f := by
  obtain ⟨cur, hc, hr⟩ := h.row
  refine ⟨⟨cur, (k.block _ (lt_of_heap hc) h1).trans hc, hr⟩, h.len, fun j hj hl => ?_⟩
  obtain ⟨cu, hcu, ha⟩ := h.ats j hj hl
  exact ⟨cu, (k.block _ (lt_of_heap hcu) (h2 j hj hl)).trans hcu, ha⟩
-- over type 44

theorem HoldsN.below {s : Shape} {w w' : World} {f : Nat → Tk} (h : HoldsN s w f) (k : Below w.heap.size w w') : HoldsN s w' f :=
  h.keep (KeepB.of_below (fun _ => False) k) (fun x => x) (fun _ _ _ x => x)
-- over type 44

theorem HoldsN.atRow {s : Shape} {w : World} {f : Nat → Tk} {B : Nat} (h : HoldsN s w f) (ok : s.Ok B) (j : Nat) (hj : j < s.n) : AtRow w (s.aa j) (f j).attrs := by
  intro m hm
  have hl : 0 < s.len j := by rw [← h.len j hj]; omega
  obtain ⟨cu, hcu, ha⟩ := h.ats j hj hl
  obtain ⟨c1, c2⟩ := ha m hm
  exact ⟨s.A j, s.O j, (ok.at_ j hj hl).1, lt_of_heap hcu, by rw [Lib.cell_of_heap hcu]; exact c1, by rw [Lib.cell_of_heap hcu]; exact c2⟩
-- over type 44

theorem HoldsN.tkRow {s : Shape} {w : World} {f : Nat → Tk} {B : Nat} {ts : List Tk} (h : HoldsN s w f) (ok : s.Ok B) (hn : ts.length = s.n) (hf : ∀ j (hj : j < ts.length), f j = ts[j]) : TkRow w (some ⟨s.R, s.o, none⟩) ts := by
  intro j hj
  obtain ⟨cur, hc, hr⟩ := h.row
  have hjn : j < s.n := by omega
  have t := hr j hjn
  have ha := h.atRow ok j hjn
  rw [hf j hj] at t ha
  exact ⟨s.R, s.o, s.aa j, s.C j, rfl, lt_of_heap hc, by rw [Lib.cell_of_heap hc]; exact t.c0, by rw [Lib.cell_of_heap hc]; exact t.c1, by rw [Lib.cell_of_heap hc]; exact t.c2, by rw [Lib.cell_of_heap hc]; exact t.c3, ha⟩
-- over type 44

theorem hold_step {s : Shape} {B i : Nat} {w w' : World} {f : Nat → Tk} {t : Tk} {cur : Array Value} (ok : s.Ok B) (h : HoldsN s w f) (hi : i < s.n) (hcur : w.heap[s.R]? = some (.cells cur 44 (0, 0)))
    (hk : KeepB (fun b => b = s.R ∨ 0 < s.len i ∧ b = s.A i) w w')
    (hR : w'.heap[s.R]? = some (.cells (((cur.setIfInBounds (s.o + i * 4) (.int .i64 t.kind)).setIfInBounds (s.o + i * 4 + 1) (.string t.name)).setIfInBounds (s.o + i * 4 + 3) (.string t.text)) 44 (0, 0)))
    (hl : t.attrs.length = s.len i) (ha : 0 < s.len i → ∃ cu, w'.heap[s.A i]? = some (.cells cu 62 (0, 0)) ∧ AtCells cu (s.O i) t.attrs) : HoldsN s w' (fun j => if j = i then t else f j) := by
  obtain ⟨cur0, hc0, hr⟩ := h.row
  have ec : cur0 = cur := by
    rw [hcur] at hc0
    simp at hc0
    exact hc0.symm
  subst ec
  have b3 : s.o + i * 4 + 3 < cur0.size := (Array.getElem?_eq_some_iff.1 (hr i hi).c3).1
  refine ⟨⟨_, hR, fun j hj => ?_⟩, fun j hj => ?_, fun j hj hlj => ?_⟩
  · by_cases e : j = i
    · subst e
      simp only [if_true]
      have t2 := (hr j hj).c2
      refine ⟨?_, ?_, ?_, ?_⟩
      · simp [Array.getElem?_setIfInBounds]; omega
      · simp [Array.getElem?_setIfInBounds]; omega
      · simp only [Array.getElem?_setIfInBounds]
        rw [if_neg (by omega), if_neg (by omega), if_neg (by omega), t2, h.len j hj, hl]
      · simp [Array.getElem?_setIfInBounds]; omega
    · simp only [if_neg e]
      have t0 := hr j hj
      refine ⟨?_, ?_, ?_, ?_⟩
      · simp only [Array.getElem?_setIfInBounds]; rw [if_neg (by omega), if_neg (by omega), if_neg (by omega)]; exact t0.c0
      · simp only [Array.getElem?_setIfInBounds]; rw [if_neg (by omega), if_neg (by omega), if_neg (by omega)]; exact t0.c1
      · simp only [Array.getElem?_setIfInBounds]; rw [if_neg (by omega), if_neg (by omega), if_neg (by omega)]; exact t0.c2
      · simp only [Array.getElem?_setIfInBounds]; rw [if_neg (by omega), if_neg (by omega), if_neg (by omega)]; exact t0.c3
  · by_cases e : j = i
    · subst e; simpa using hl
    · simp only [if_neg e]; exact h.len j hj
  · by_cases e : j = i
    · subst e
      simp only [if_true]
      exact ha hlj
    · simp only [if_neg e]
      obtain ⟨cu, hcu, hac⟩ := h.ats j hj hlj
      refine ⟨cu, (hk.block _ (lt_of_heap hcu) ?_).trans hcu, hac⟩
      rintro (x | ⟨x, y⟩)
      · exact (ok.at_ j hj hlj).2.2 x
      · exact ok.apart j i hj hi e hlj x y

set_option maxRecDepth 8000 in
set_option maxHeartbeats 4000000 in
theorem cMarkNodeH (s : Shape) (B cap k : Nat) (f : Nat → Tk) (w : World) (ok : s.Ok B) (hh : HoldsN s w f) (hk : s.K k s.n ≤ 100000000) :
    Calls Tryz.prog 10 #[.slice (some ⟨s.R, s.o, none⟩) s.n cap, .int .i64 k] w fun e w' => e = .returned (.int .i64 (s.K k s.n : Nat)) ∧ HoldsN s w' (fun j => mkTk (s.K k j) (s.len j)) ∧ KeepB s.Has w w' := by
  have OK := hid ok
  have HH := hid hh
  clear ok hh
  obtain ⟨n, hn⟩ : ∃ n, s.n = n := ⟨_, rfl⟩
  have HN := hid hn
  have HK := hid hk
  have hnb : n ≤ 100000000 := by have := s.K_ge k s.n; omega
  rw [hn]
  obtain ⟨R, hR⟩ : ∃ R, s.R = R := ⟨_, rfl⟩
  obtain ⟨o, ho⟩ : ∃ o, s.o = o := ⟨_, rfl⟩
  have HRR := hid hR
  have HO := hid ho
  rw [hR, ho]
  clear hn hk hR ho
  have HE := hid (show HoldsN s w (fun j => if j < 0 then mkTk (s.K k j) (s.len j) else f j) by simpa using HH.out)
  clear HH
  go_enter Tryz.func10, Tryz.ntmps10
  go_wp2
  go_loopw [1, 5] (fun x y wr => ∃ i K : Nat, x = .int .i64 (K : Int) ∧ y = .int .i64 (i : Int) ∧ i ≤ n ∧ Hid (K = s.K k i) ∧ Hid (HoldsN s wr (fun j => if j < i then mkTk (s.K k j) (s.len j) else f j)) ∧ Hid (KeepB s.Has w wr)) (fun _ y _ => n - (intOf y).toNat)
  case atStart => exact ⟨0, k, rfl, rfl, Nat.zero_le _, rfl, HE.out, KeepB.refl _ _⟩
  case round =>
    clear HE
    obtain ⟨i, K, rfl, rfl, hi, HKi, HH, HW⟩ := hrel
    by_cases hlt : i < n
    · have his : i < s.n := by rw [HN.out]; exact hlt
      have hin : (i : Int) < (n : Int) := by omega
      obtain ⟨L, hL⟩ : ∃ L, s.len i = L := ⟨_, rfl⟩
      have HL := hid hL
      have HK1 := hid (show s.K k (i + 1) = K + (3 + 2 * L) by rw [HKi.out, ← hL]; rfl)
      have hKb : K + 3 + 2 * L ≤ 100000000 := by
        have h1 := s.K_le k (i + 1) s.n (by omega)
        have h2 := HK.out
        rw [HK1.out] at h1
        omega
      obtain ⟨cur, hcur, hr⟩ := HH.out.row
      have HC := hid hcur
      have hri := hr i his
      simp only [if_neg (Nat.lt_irrefl i)] at hri
      have b3 : o + i * 4 + 3 < cur.size := by have := (Array.getElem?_eq_some_iff.1 hri.c3).1; rw [HO.out] at this; exact this
      have t2 : cur[o + i * 4 + 2]? = some (.slice (s.aa i) L (s.C i)) := by
        have := hri.c2
        have hl := HH.out.len i his
        simp only [if_neg (Nat.lt_irrefl i)] at hl
        rw [HO.out, hl, hL] at this
        exact this
      rw [HRR.out] at hcur
      have HCR := hid hcur
      have T2 := hid t2
      have HA0 := hid (show 0 < L → ∃ cu : Array Value, wr.heap[s.A i]? = some (.cells cu 62 (0, 0)) ∧ s.O i + L * 2 ≤ cu.size from fun h => by
        obtain ⟨cu, h1, h2⟩ := HH.out.ats i his (by rw [hL]; exact h)
        have hl := HH.out.len i his
        simp only [if_neg (Nat.lt_irrefl i)] at hl h2
        rw [hL] at hl
        have := (Array.getElem?_eq_some_iff.1 (h2 (L - 1) (by omega)).2).1
        exact ⟨cu, h1, by omega⟩)
      have OKi := hid (fun h : 0 < L => OK.out.at_ i his (by rw [hL]; exact h))
      clear hr hri hL t2
      obtain ⟨o0, k0⟩ := cell_there hcur (i := o + i * 4) (by omega)
      have f0 : wr.frozen? ⟨R, o + i * 4, none⟩ = false := Lib.frozen_of_heap hcur _
      have H1 := hid (heap_set (i := o + i * 4) hcur (.int .i64 (K : Int)))
      have W1 := hid (KeepB.of_set (p := fun b => b = R) wr (g := R) (o + i * 4) (.int .i64 (K : Int)) rfl)
      obtain ⟨w1, hw1⟩ : ∃ w1, wr.setCell ⟨R, o + i * 4, none⟩ (.int .i64 (K : Int)) = w1 := ⟨_, rfl⟩
      rw [hw1] at H1 W1
      have C1 := fun w => cMarkText (K + 1) (by omega) w
      obtain ⟨X, hX⟩ : ∃ X, markS (K + 1) = X := ⟨_, rfl⟩
      have HX := hid hX
      rw [hX] at C1
      clear hX hcur
      go_wp2_with fail
      refine (C1 _).mono ?_
      rintro e w2 ⟨rfl, hb2⟩
      have H2 := hid (blk_below H1.out hb2)
      have W2 := hid (W1.out.trans (KeepB.of_below _ hb2))
      obtain ⟨o1, k1⟩ := cell_there H2.out (i := o + i * 4 + 1) (by simp; omega)
      have f1 : w2.frozen? ⟨R, o + i * 4 + 1, none⟩ = false := Lib.frozen_of_heap H2.out _
      have H3 := hid (heap_set (i := o + i * 4 + 1) H2.out (.string X))
      have W3 := hid (W2.out.trans (KeepB.of_set (p := fun b => b = R) w2 (g := R) (o + i * 4 + 1) (.string X) rfl))
      clear hb2 C1 hw1 k0 f0 H1 W1
      obtain ⟨w3, hw3⟩ : ∃ w3, w2.setCell ⟨R, o + i * 4 + 1, none⟩ (.string X) = w3 := ⟨_, rfl⟩
      rw [hw3] at H3 W3
      have k2 : w3.cell? ⟨R, o + i * 4 + 2, none⟩ = some (.slice (s.aa i) L (s.C i)) := by
        rw [Lib.cell_of_heap H3.out]
        simp only [Array.getElem?_setIfInBounds]
        rw [if_neg (by omega), if_neg (by omega)]
        exact T2.out
      have CM : Calls Tryz.prog 29 #[.slice (s.aa i) L (s.C i), .int .i64 ((K + 2 : Nat) : Int)] w3 fun e w' => e = .returned (.int .i64 ((K + 2 + 2 * L : Nat) : Int)) ∧ (w'.heap[R]? = w3.heap[R]? ∧ (0 < L → ∃ cu, w'.heap[s.A i]? = some (.cells cu 62 (0, 0)) ∧ AtCells cu (s.O i) (mkAts (K + 2) L))) ∧ KeepB (fun b => b = R ∨ 0 < L ∧ b = s.A i) w3 w' := by
        by_cases hL0 : L = 0
        · subst hL0
          refine (cMarkAttr0 (s.aa i) (s.C i) (K + 2) w3).mono ?_
          rintro e w' ⟨rfl, rfl⟩
          exact ⟨rfl, ⟨rfl, fun h => by omega⟩, KeepB.refl _ _⟩
        · obtain ⟨a1, a2, a3⟩ := OKi.out (by omega)
          obtain ⟨cu, hcu, hsz⟩ := HA0.out (by omega)
          have hcu3 : w3.heap[s.A i]? = some (.cells cu 62 (0, 0)) := (W3.out.block _ (lt_of_heap hcu) (fun e => a3 (by rw [HRR.out]; exact e))).trans hcu
          rw [a1]
          refine (cMarkAttrS (s.A i) (s.O i) (s.C i) L (K + 2) cu w3 hcu3 hsz (by omega)).mono ?_
          rintro e w' ⟨rfl, ⟨cu', h1, _, h3⟩, hg⟩
          exact ⟨rfl, ⟨hg.block R (lt_of_heap H3.out) (fun e => a3 (by rw [HRR.out, ← Option.some.inj e])), fun _ => ⟨cu', h1, marksA_cells h3⟩⟩, KeepB.of_grown hg (.inr ⟨by omega, rfl⟩)⟩
      have W3' := hid (W3.out.mono (q := fun b => b = R ∨ 0 < L ∧ b = s.A i) (fun b e => .inl e))
      have hw2c : ((K : Int) + 1) + 1 = ((K + 2 : Nat) : Int) := by omega
      clear HA0 W2 W3 H2
      go_wp2_with fail
      refine CM.mono ?_
      rintro e w4 ⟨rfl, ⟨hr4, ha4⟩, hk4⟩
      have H4 := hid (hr4.trans H3.out)
      have HA4 := hid ha4
      have W4 := hid (W3'.out.trans hk4)
      clear hr4 ha4 hk4 CM k2 W3' H3 hw3 k1 f1
      have C5 := fun w => cMarkText (K + 2 + 2 * L) (by omega) w
      obtain ⟨Y, hY⟩ : ∃ Y, markS (K + 2 + 2 * L) = Y := ⟨_, rfl⟩
      have HY := hid hY
      rw [hY] at C5
      clear hY
      obtain ⟨M, hM⟩ : ∃ M, K + 2 + 2 * L = M := ⟨_, rfl⟩
      have HM := hid hM
      have hMb : M ≤ 100000000 := by omega
      rw [hM] at C5 ⊢
      clear hM
      go_wp2_with fail
      refine (C5 _).mono ?_
      rintro e w5 ⟨rfl, hb5⟩
      have H5 := hid (blk_below H4.out hb5)
      have HA5 := hid (show 0 < L → ∃ cu, w5.heap[s.A i]? = some (.cells cu 62 (0, 0)) ∧ AtCells cu (s.O i) (mkAts (K + 2) L) from fun h => by
        obtain ⟨cu, h1, h2⟩ := HA4.out h
        exact ⟨cu, blk_below h1 hb5, h2⟩)
      have W5 := hid (W4.out.trans (KeepB.of_below _ hb5))
      obtain ⟨o3, k3⟩ := cell_there H5.out (i := o + i * 4 + 3) (by simp; omega)
      have f3 : w5.frozen? ⟨R, o + i * 4 + 3, none⟩ = false := Lib.frozen_of_heap H5.out _
      have H6 := hid (heap_set (i := o + i * 4 + 3) H5.out (.string Y))
      have W6 := hid (W5.out.trans (KeepB.of_set (p := fun b => b = R ∨ 0 < L ∧ b = s.A i) w5 (g := R) (o + i * 4 + 3) (.string Y) (.inl rfl)))
      have HA6 := hid (show 0 < L → ∃ cu, (w5.setCell ⟨R, o + i * 4 + 3, none⟩ (.string Y)).heap[s.A i]? = some (.cells cu 62 (0, 0)) ∧ AtCells cu (s.O i) (mkAts (K + 2) L) from fun h => by
        obtain ⟨cu, h1, h2⟩ := HA5.out h
        exact ⟨cu, (Below.heap_setCell w5 _ _ _ (by show ¬ s.A i = R; rw [← HRR.out]; exact (OKi.out h).2.2)).trans h1, h2⟩)
      have HF := hid (show HoldsN s (w5.setCell ⟨R, o + i * 4 + 3, none⟩ (.string Y)) (fun j => if j = i then mkTk K L else if j < i then mkTk (s.K k j) (s.len j) else f j) from
        hold_step OK.out HH.out his HC.out (by rw [HRR.out, HL.out]; exact W6.out) (by rw [HRR.out, HO.out]; show _ = some (Obj.cells (((cur.setIfInBounds (o + i * 4) (.int .i64 (K : Int))).setIfInBounds (o + i * 4 + 1) (.string (markS (K + 1)))).setIfInBounds (o + i * 4 + 3) (.string (markS (K + 2 + 2 * L)))) _ _); rw [HX.out, HY.out]; exact H6.out)
          (by rw [HL.out]; exact mkAts_len _ _) (by rw [HL.out]; exact HA6.out))
      have HF2 := hid (show HoldsN s (w5.setCell ⟨R, o + i * 4 + 3, none⟩ (.string Y)) (fun j => if j < i + 1 then mkTk (s.K k j) (s.len j) else f j) from by
        have e : (fun j => if j < i + 1 then mkTk (s.K k j) (s.len j) else f j) = (fun j => if j = i then mkTk K L else if j < i then mkTk (s.K k j) (s.len j) else f j) := by
          funext j
          by_cases h1 : j = i
          · subst h1; rw [if_pos (by omega), if_pos rfl, HKi.out, HL.out]
          · rw [if_neg h1]
            by_cases h2 : j < i
            · rw [if_pos (by omega), if_pos h2]
            · rw [if_neg (by omega), if_neg h2]
        rw [e]
        exact HF.out)
      have HW6 := hid (HW.out.trans (W6.out.mono (q := s.Has) (fun b e => by
        rcases e with e | ⟨e1, e2⟩
        · exact .inl (e.trans HRR.out.symm)
        · exact .inr ⟨i, his, by rw [HL.out]; exact e1, e2⟩)))
      clear HF HA4 HA5 HA6 W4 W5 W6 H4 H5 C5 hb5 HC HCR T2
      go_wp2_with fail
      go_roundw
      case rel => exact ⟨i + 1, M + 1, by go_num, by go_num, by omega, (show M + 1 = s.K k (i + 1) by rw [HK1.out, ← HM.out]; omega), HF2.out, HW6.out⟩
      case measure => simp [intOf]; omega
    · have hie : i = n := by omega
      subst hie
      have HF := hid (show HoldsN s wr (fun j => mkTk (s.K k j) (s.len j)) from ⟨by
        obtain ⟨cur, hc, hr⟩ := HH.out.row
        exact ⟨cur, hc, fun j hj => by have := hr j hj; rw [HN.out] at hj; simp only [if_pos hj] at this; exact this⟩, fun j hj => by
        have := HH.out.len j hj; rw [HN.out] at hj; simp only [if_pos hj] at this; exact this, fun j hj hl => by
        have := HH.out.ats j hj hl; rw [HN.out] at hj; simp only [if_pos hj] at this; exact this⟩)
      go_wp2_with fail
      go_ret
      exact ⟨by rw [HKi.out]; rfl, HF.out, HW.out⟩

theorem cMarkNodeS (s : Shape) (B cap k : Nat) (f : Nat → Tk) (w : World) (ok : s.Ok B) (hh : HoldsN s w f) (hk : s.K k s.n ≤ 100000000) :
    Calls Tryz.prog 10 #[.slice (some ⟨s.R, s.o, none⟩) s.n cap, .int .i64 k] w fun e w' => e = .returned (.int .i64 (s.K k s.n : Nat)) ∧ HoldsN s w' (fun j => mkTk (s.K k j) (s.len j)) ∧ KeepB (fun b => B ≤ b) w w' :=
  (cMarkNodeH s B cap k f w ok hh hk).mono fun _ _ ⟨h1, h2, h3⟩ => ⟨h1, h2, h3.mono fun _ hb => ok.has hb⟩

end Go.Proofs.YtkejmifkjgpdjaaGreat.Nd
