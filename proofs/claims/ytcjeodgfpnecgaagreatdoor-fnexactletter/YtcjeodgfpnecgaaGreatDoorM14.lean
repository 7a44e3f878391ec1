/- Rows of nodes taken from a tree, one by one (mathematics alone): branches, what is put in. A row of tokens of which every list owns its memory: marks in it, set and held. A copy of attrs, in memory of its own. -/
import Derived.Test.YtcjeodgfpnecgaaGreatDoorM9
import Derived.Test.YtcjeodgfpnecgaaGreatDoorM3
import Derived.Maps.AppendAt
import Derived.Deep.Upon
namespace Go.Proofs.YtcjeodgfpnecgaaGreatDoor
open Go.RowKit
set_option linter.unusedVariables false

/-- The node, with another parent. -/
def shK (k : Int) (t : Tk) : Tk := ⟨k, t.name, t.attrs, t.text⟩

/-- m nodes from k on, each by its place. -/
def segN (f : Nat → Tk → Int) (ts : List Tk) (k : Nat) : Nat → List Tk
  | 0 => []
  | m + 1 => segN f ts k m ++ (match ts[k + m]? with | some t => [shK (f (k + m) t) t] | none => [])

theorem segN_next {f : Nat → Tk → Int} {ts : List Tk} {k m : Nat} {t : Tk} (h : ts[k + m]? = some t) : segN f ts k (m + 1) = segN f ts k m ++ [shK (f (k + m) t) t] := by
  show segN f ts k m ++ _ = _
  rw [h]

theorem segN_len {f : Nat → Tk → Int} {ts : List Tk} {k : Nat} : ∀ m, k + m ≤ ts.length → (segN f ts k m).length = m
  | 0, _ => rfl
  | m + 1, h => by
    rw [segN_next (List.getElem?_eq_getElem (show k + m < ts.length by omega)), List.length_append, segN_len m (by omega)]
    rfl

theorem segN_get {f : Nat → Tk → Int} {ts : List Tk} {k : Nat} : ∀ m, k + m ≤ ts.length → ∀ j, j < m → ∀ t, ts[k + j]? = some t → (segN f ts k m)[j]? = some (shK (f (k + j) t) t)
  | 0, _, j, hj, _, _ => absurd hj (Nat.not_lt_zero _)
  | m + 1, h, j, hj, t, ht => by
    have hl : (segN f ts k m).length = m := segN_len m (by omega)
    rw [segN_next (List.getElem?_eq_getElem (show k + m < ts.length by omega))]
    by_cases e : j < m
    · rw [List.getElem?_append_left (by rw [hl]; exact e)]
      exact segN_get m (by omega) j e t ht
    · have e2 : j = m := by omega
      subst e2
      rw [List.getElem?_append_right (by rw [hl]; exact Nat.le_refl _), hl, Nat.sub_self]
      rw [List.getElem?_eq_getElem (show k + j < ts.length by omega)] at ht
      rw [Option.some.inj ht]
      rfl

/-- All as it was. -/
theorem segN_same {ts : List Tk} : ∀ m, m ≤ ts.length → segN (fun _ t => t.kind) ts 0 m = ts.take m
  | 0, _ => by rw [List.take_zero]; rfl
  | m + 1, h => by
    have e : ts[0 + m]? = some ts[m] := by rw [Nat.zero_add]; exact List.getElem?_eq_getElem (by omega)
    rw [segN_next e, segN_same m (by omega), List.take_succ_eq_append_getElem (show m < ts.length by omega)]
    rfl

theorem segN_all (ts : List Tk) : segN (fun _ t => t.kind) ts 0 ts.length = ts := by
  rw [segN_same _ (Nat.le_refl _), List.take_of_length_le (Nat.le_refl _)]

/-- Sizes stay. -/
theorem segN_sz {f : Nat → Tk → Int} {ts : List Tk} {k b : Nat} (h : TksSz b ts) : ∀ m, TksSz b (segN f ts k m)
  | 0 => fun t ht => absurd ht List.not_mem_nil
  | m + 1 => by
    cases e : ts[k + m]? with
    | none =>
      have e2 : segN f ts k (m + 1) = segN f ts k m := by
        show segN f ts k m ++ _ = _
        rw [e, List.append_nil]
      rw [e2]
      exact segN_sz h m
    | some t =>
      rw [segN_next e]
      intro u hu
      rcases List.mem_append.1 hu with h' | h'
      · exact segN_sz h m u h'
      · rw [List.mem_singleton] at h'
        subst h'
        exact h t (List.mem_of_getElem? e)

/-- Who is whose parent in a branch. -/
def brF (k : Nat) (i : Nat) (t : Tk) : Int := if i = k then -1 else t.kind - (k : Int)

/-- The branch there. -/
def branchL (ts : List Tk) (k : Nat) : List Tk := segN (brF k) ts k (endN ts k - k)

/-- A tree with a branch put in, of which that is the parent. -/
def putL (ts : List Tk) (place : Nat) (parent : Int) (br : List Tk) : List Tk :=
  (segN (fun _ t => t.kind) ts 0 place ++ segN (fun i t => if i = 0 then parent else t.kind + (place : Int)) br 0 br.length) ++ segN (fun _ t => if (place : Int) ≤ t.kind then t.kind + (br.length : Int) else t.kind) ts place (ts.length - place)

theorem branchL_len {ts : List Tk} {k : Nat} (hk : k < ts.length) : (branchL ts k).length = endN ts k - k := by
  have h := endN_le hk
  exact segN_len _ (by omega)

theorem putL_len {ts : List Tk} {place : Nat} {parent : Int} {br : List Tk} (h : place ≤ ts.length) : (putL ts place parent br).length = ts.length + br.length := by
  unfold putL
  rw [List.length_append, List.length_append, segN_len _ (by omega), segN_len _ (by omega), segN_len _ (by omega)]
  omega

/-- In a tree a parent is a place of it, or none. -/
theorem tree_kind {ts : List Tk} (hT : TreeP ts) {i : Nat} {t : Tk} (h : ts[i]? = some t) : -1 ≤ t.kind ∧ t.kind < 50 := by
  have hi : i < ts.length := by
    rcases Nat.lt_or_ge i ts.length with h' | h'
    · exact h'
    · rw [List.getElem?_eq_none h'] at h; cases h
  have e : t.kind = parI ts i := by unfold parI; rw [h]
  rcases (hT.2.2.2.2 i hi).2.1 with h0 | ⟨p, _, hp, hel⟩
  · subst h0
    rw [e, hT.2.2.1]
    omega
  · obtain ⟨hpl, _⟩ := hel
    have := hT.2.1
    rw [e, ← hp]
    omega

end Go.Proofs.YtcjeodgfpnecgaaGreatDoor

namespace Go.Proofs.YtcjeodgfpnecgaaGreatDoor
open Go.RowKit
set_option linter.unusedVariables false
set_option linter.unusedSimpArgs false

/-- Where a row of tokens and their attrs lie. -/
structure Shape where
  R : Nat
  o : Nat
  n : Nat
  len : Nat → Nat
  aa : Nat → Option Addr
  A : Nat → Nat
  O : Nat → Nat
  C : Nat → Nat

/-- From block B on; no two lists in one block. -/
structure Shape.Ok (s : Shape) (B : Nat) : Prop where
  row : B ≤ s.R
  at_ : ∀ j, j < s.n → 0 < s.len j → s.aa j = some ⟨s.A j, s.O j, none⟩ ∧ B ≤ s.A j ∧ ¬ s.A j = s.R
  apart : ∀ i j, i < s.n → j < s.n → ¬ i = j → 0 < s.len i → 0 < s.len j → ¬ s.A i = s.A j

/-- The blocks of the row and of its lists. -/
def Shape.Has (s : Shape) (b : Nat) : Prop := b = s.R ∨ ∃ j, j < s.n ∧ 0 < s.len j ∧ b = s.A j

theorem Shape.Ok.has {s : Shape} {B : Nat} (h : s.Ok B) {b : Nat} (hb : s.Has b) : B ≤ b := by
  rcases hb with rfl | ⟨j, hj, hl, rfl⟩
  · exact h.row
  · exact (h.at_ j hj hl).2.1

structure TkCells (cur : Array Value) (p : Nat) (t : Tk) (aa : Option Addr) (cap : Nat) : Prop where
  c0 : cur[p]? = some (.int .i64 t.kind)
  c1 : cur[p + 1]? = some (.string t.name)
  c2 : cur[p + 2]? = some (.slice aa t.attrs.length cap)
  c3 : cur[p + 3]? = some (.string t.text)

/-- The tokens f lie there. -/
structure Shape.Holds (s : Shape) (w : World) (f : Nat → Tk) : Prop where
  row : ∃ cur, w.heap[s.R]? = some (.cells cur 101 (0, 0)) ∧ ∀ j, j < s.n → TkCells cur (s.o + j * 4) (f j) (s.aa j) (s.C j)
  len : ∀ j, j < s.n → (f j).attrs.length = s.len j
  ats : ∀ j, j < s.n → 0 < s.len j → ∃ cu, w.heap[s.A j]? = some (.cells cu 58 (0, 0)) ∧ AtCells cu (s.O j) (f j).attrs

theorem Shape.Holds.keep {s : Shape} {w w' : World} {f : Nat → Tk} {p : Nat → Prop} (h : s.Holds w f) (k : KeepB p w w') (h1 : ¬ p s.R) (h2 : ∀ j, j < s.n → 0 < s.len j → ¬ p (s.A j)) : s.Holds w' f := by
  obtain ⟨cur, hc, hr⟩ := h.row
  refine ⟨⟨cur, (k.block _ (lt_of_heap hc) h1).trans hc, hr⟩, h.len, fun j hj hl => ?_⟩
  obtain ⟨cu, hcu, ha⟩ := h.ats j hj hl
  exact ⟨cu, (k.block _ (lt_of_heap hcu) (h2 j hj hl)).trans hcu, ha⟩
-- over type 101

theorem Shape.Holds.below {s : Shape} {w w' : World} {f : Nat → Tk} (h : s.Holds w f) (k : Below w.heap.size w w') : s.Holds w' f :=
  h.keep (KeepB.of_below (fun _ => False) k) (fun x => x) (fun _ _ _ x => x)
-- over type 101

theorem Shape.Holds.atRow {s : Shape} {w : World} {f : Nat → Tk} {B : Nat} (h : s.Holds w f) (ok : s.Ok B) (j : Nat) (hj : j < s.n) : AtRow w (s.aa j) (f j).attrs := by
  intro m hm
  have hl : 0 < s.len j := by rw [← h.len j hj]; omega
  obtain ⟨cu, hcu, ha⟩ := h.ats j hj hl
  obtain ⟨c1, c2⟩ := ha m hm
  exact ⟨s.A j, s.O j, (ok.at_ j hj hl).1, lt_of_heap hcu, by rw [Lib.cell_of_heap hcu]; exact c1, by rw [Lib.cell_of_heap hcu]; exact c2⟩
-- over type 101

theorem Shape.Holds.tkRow {s : Shape} {w : World} {f : Nat → Tk} {B : Nat} {ts : List Tk} (h : s.Holds w f) (ok : s.Ok B) (hn : ts.length = s.n) (hf : ∀ j (hj : j < ts.length), f j = ts[j]) : TkRow w (some ⟨s.R, s.o, none⟩) ts := by
  intro j hj
  obtain ⟨cur, hc, hr⟩ := h.row
  have hjn : j < s.n := by omega
  have t := hr j hjn
  have ha := h.atRow ok j hjn
  rw [hf j hj] at t ha
  exact ⟨s.R, s.o, s.aa j, s.C j, rfl, lt_of_heap hc, by rw [Lib.cell_of_heap hc]; exact t.c0, by rw [Lib.cell_of_heap hc]; exact t.c1, by rw [Lib.cell_of_heap hc]; exact t.c2, by rw [Lib.cell_of_heap hc]; exact t.c3, ha⟩
-- over type 101

/-- Attrs that bear the marks from k on. -/
def mkAts (k n : Nat) : List At := (List.range n).map fun j => ⟨markS (k + 2 * j), markS (k + 2 * j + 1)⟩

theorem mkAts_len (k n : Nat) : (mkAts k n).length = n := by simp [mkAts]

theorem mkAts_get (k n j : Nat) (h : j < (mkAts k n).length) : (mkAts k n)[j].name = markS (k + 2 * j) ∧ (mkAts k n)[j].value = markS (k + 2 * j + 1) := by
  simp [mkAts]

/-- A token that bears the marks from k on. -/
def mkTk (k n : Nat) : Tk := ⟨k, markS (k + 1), mkAts (k + 2) n, markS (k + 2 + 2 * n)⟩

/-- The first mark of token j. -/
def Shape.K (s : Shape) (k : Nat) : Nat → Nat
  | 0 => k
  | j + 1 => Shape.K s k j + (3 + 2 * s.len j)

theorem Shape.K_le (s : Shape) (k : Nat) : ∀ j m, j ≤ m → s.K k j ≤ s.K k m := by
  intro j m h
  induction m with
  | zero =>
    have : j = 0 := by omega
    subst this; exact Nat.le_refl _
  | succ m ih =>
    rcases Nat.lt_or_eq_of_le h with h' | h'
    · have := ih (by omega)
      show s.K k j ≤ s.K k m + (3 + 2 * s.len m)
      omega
    · subst h'; exact Nat.le_refl _

theorem marksA_cells {cu : Array Value} {o n k : Nat} (h : MarksA cu o n k) : AtCells cu o (mkAts k n) := by
  intro m hm
  obtain ⟨h1, h2⟩ := mkAts_get k n m hm
  rw [mkAts_len] at hm
  rw [h1, h2]
  exact h m hm

end Go.Proofs.YtcjeodgfpnecgaaGreatDoor

namespace Go.Proofs.YtcjeodgfpnecgaaGreatDoor
open Go.RowKit
set_option linter.unusedVariables false
set_option linter.unusedSimpArgs false

theorem add_plainW (b o j : Nat) : (⟨b, o, none⟩ : Addr).add j = ⟨b, o + j, none⟩ := by unfold Addr.add; split <;> simp_all

/-- append of nothing. -/
theorem wpL_none {P : Program} (w : World) {ops : Array Oper} {rest : List Oper} {o : Oper} {a : Act} {Q : Exit → Act → World → Prop} (hgd : o.guard = none) (s x : Operand) (t e : TypeId) (i : TypeInfo)
    (ho : o.op = .call { callee := .builtin .append, args := #[s, x], argTypes := #[t, t] }) (ht : P.underlying t = some (.slice e)) (hi : P.info? e = some i)
    (b : Option Addr) (n c : Nat) (hs : a.eval s = .slice b n c) (hle : n ≤ c) (ax : Option Addr) (cx : Nat) (hx : a.eval x = .slice ax 0 cx)
    (h : wpList P ops Q rest (a.put o.dst (.slice b n c)) w) : wpList P ops Q (o :: rest) a w := by
  refine wpList_plain hgd fun K hK => ?_
  have hsrc : Src P i.size t (.slice ax 0 cx) 0 [] w := by
    cases ax with
    | none => exact Src.ofNil w ht cx
    | some ad => exact Src.ofSlice w ht ad 0 cx [] (by simp) (fun j u h => by simp at h) (fun u h => by cases h)
  have hr := run_append_nothing (P := P) w t t o.type e i ht hi b n c hle _ hsrc
  unfold Oper.wp execOp
  simp only [ho, resolve, invoke, builtin, Sem.run_bind, Sem.run_pure, Result.andThen_ok, List.map_toArray, List.map_cons, List.map_nil, hs, hx, hr]
  exact hK _ _ h

/-- Attrs as cells. -/
def atC (l : List At) : List Value := l.flatMap fun x => [.string x.name, .string x.value]

theorem atC_len (l : List At) : (atC l).length = l.length * 2 := by
  induction l with
  | nil => rfl
  | cons x l ih => show (atC l).length + 2 = _; rw [ih, List.length_cons]; omega

theorem atC_get (l : List At) (j : Nat) (h : j < l.length) : (atC l)[j * 2]? = some (.string l[j].name) ∧ (atC l)[j * 2 + 1]? = some (.string l[j].value) := by
  induction l generalizing j with
  | nil => simp at h
  | cons x l ih =>
    have e : atC (x :: l) = .string x.name :: .string x.value :: atC l := rfl
    rw [e]
    match j with
    | 0 => exact ⟨rfl, rfl⟩
    | j + 1 =>
      have := ih j (by simpa using h)
      rw [show (j + 1) * 2 = j * 2 + 1 + 1 by omega]
      exact this

theorem atC_one (l : List At) : ∀ u ∈ atC l, u.oneCell' = true := by
  intro u hu
  unfold atC at hu
  obtain ⟨x, _, hx⟩ := List.mem_flatMap.1 hu
  simp at hx
  rcases hx with rfl | rfl <;> rfl

theorem atC_row {w : World} {b o : Nat} {l : List At} (h : AtRow w (some ⟨b, o, none⟩) l) : ∀ j u, (atC l)[j]? = some u → w.cell? ((⟨b, o, none⟩ : Addr).add j) = some u := by
  intro j u hj
  have hlt : j < l.length * 2 := by
    rw [← atC_len]
    exact (List.getElem?_eq_some_iff.1 hj).1
  rw [add_plainW]
  obtain ⟨b', o', e, _, c1, c2⟩ := h (j / 2) (by omega)
  cases e
  obtain ⟨g1, g2⟩ := atC_get l (j / 2) (by omega)
  rcases Nat.mod_two_eq_zero_or_one j with h2 | h2
  · have e2 : j / 2 * 2 = j := by omega
    rw [e2] at g1 c1
    rw [g1] at hj
    cases hj
    exact c1
  · have e2 : j / 2 * 2 + 1 = j := by omega
    rw [Nat.add_assoc, e2] at c2
    rw [e2] at g2
    rw [g2] at hj
    cases hj
    exact c2

theorem infoAtW : (Tryz.prog.info? 58).map (fun i => (i.zero, i.size, i.bytes)) = some (some (.agg #[.string ⟨#[]⟩, .string ⟨#[]⟩]), 2, 32) := by kernel_rfl

/-- A list of attrs in a block of its own, from B on. -/
def OwnAts (w : World) (B : Nat) (a : Option Addr) (l : List At) : Prop := 0 < l.length → ∃ g o cu, a = some ⟨g, o, none⟩ ∧ B ≤ g ∧ w.heap[g]? = some (.cells cu 58 (0, 0)) ∧ AtCells cu o l

theorem OwnAts.atRow {w : World} {B : Nat} {a : Option Addr} {l : List At} (h : OwnAts w B a l) : AtRow w a l := by
  intro j hj
  obtain ⟨g, o, cu, e, _, hh, hc⟩ := h (by omega)
  obtain ⟨c1, c2⟩ := hc j hj
  exact ⟨g, o, e, lt_of_heap hh, by rw [Lib.cell_of_heap hh]; exact c1, by rw [Lib.cell_of_heap hh]; exact c2⟩

theorem OwnAts.below {w w' : World} {B : Nat} {a : Option Addr} {l : List At} (h : OwnAts w B a l) (hb : Below w.heap.size w w') : OwnAts w' B a l := by
  intro hl
  obtain ⟨g, o, cu, e, hB, hh, hc⟩ := h hl
  exact ⟨g, o, cu, e, hB, (hb.block g (lt_of_heap hh)).trans hh, hc⟩

set_option maxHeartbeats 1000000 in
theorem cCopyS (a : Option Addr) (cap : Nat) (l : List At) (w : World) (hR : AtRow w a l) (hn : l.length ≤ 1048576) :
    Calls Tryz.prog 55 #[.slice a l.length cap] w fun e w' => ∃ a' c', e = .returned (.slice a' l.length c') ∧ OwnAts w' w.heap.size a' l ∧ Below w.heap.size w w' := by
  obtain ⟨i0, hi, hz0, hz1, hz2⟩ := info_parts infoAtW
  have HB0 := hid ((Below.refl w.heap.size w).alloc (Nat.le_refl _) (.cells #[] 58))
  by_cases h0 : l.length = 0
  · have : l = [] := List.eq_nil_of_length_eq_zero h0
    subst this
    go_enter Tryz.func55, Tryz.ntmps55
    go_wp2_with (at_builtin; refine wpL_none _ rfl _ _ 29 58 i0 rfl Tryz.underlying29 hi _ _ _ rfl (Nat.le_refl _) a cap rfl ?_)
    go_ret
    exact ⟨_, _, rfl, fun h => absurd h (by simp), HB0.out⟩
  · obtain ⟨b, o, rfl, hb, hcc⟩ := hR 0 (by omega)
    clear hcc
    have HR := hid (hR.below HB0.out)
    have HO : Hid ((w.alloc (.cells #[] 58)).ownsRow w.heap.size 58 2 (.slice (some ⟨w.heap.size, 0, none⟩) 0 0) 0 []) :=
      ⟨rfl, .inr ⟨w.heap.size, 0, #[], rfl, Nat.le_refl _, heap_alloc_new _ _, Nat.le_refl _, Nat.zero_le _, rfl, rfl⟩⟩
    have HN := hid h0
    clear hR h0
    go_enter Tryz.func55, Tryz.ntmps55
    go_wp2_with (at_builtin; refine wpList_append_own_at _ rfl _ _ 29 rfl w.heap.size 58 i0 _ 2 32 Tryz.underlying29 hi hz0 hz1 hz2 rfl (by decide) _ 0 [] rfl HO.out ⟨b, o, none⟩ l.length cap (atC l) rfl (atC_len l) (atC_row HR.out) (atC_one l) ?c3 ?c4 ?c5 ?_)
    case c3 => unfold maxLen; omega
    case c4 => omega
    case c5 => simp
    intro v' w2 hown hgrow _ _
    have HB2 := hid (HB0.out.grown hgrow (by simp) (fun g hg => (HO.out.lt g hg).1))
    rcases hown.2 with ⟨_, h'⟩ | ⟨g, cp, cur, rfl, hg, hh, hn', hc, hs, ht⟩
    · exact absurd h' HN.out
    · have HA := hid (show OwnAts w2 w.heap.size (some ⟨g, 0, none⟩) l from fun _ => ⟨g, 0, cur, rfl, hg, hh, fun j hj => by
        obtain ⟨g1, g2⟩ := atC_get l j hj
        rw [← ht, List.getElem?_take] at g1 g2
        refine ⟨?_, ?_⟩
        · rw [Nat.zero_add, ← Array.getElem?_toList]
          split at g1
          · exact g1
          · cases g1
        · rw [Nat.zero_add, ← Array.getElem?_toList]
          split at g2
          · exact g2
          · cases g2⟩)
      clear hown hgrow hh hc hs ht hg
      go_wp2
      go_ret
      exact ⟨_, _, rfl, HA.out, HB2.out⟩

end Go.Proofs.YtcjeodgfpnecgaaGreatDoor
