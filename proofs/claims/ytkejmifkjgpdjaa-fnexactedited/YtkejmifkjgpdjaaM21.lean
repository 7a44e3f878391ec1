/- Contract of copiedAttrs of the program. A piece of a tree copied, Parents further by so much: contract of moved of the program. Rows put one behind the other: contracts of slices.Grow and slices.Concat. -/
import Derived.Test.YtkejmifkjgpdjaaM19
import Derived.Test.YtkejmifkjgpdjaaM20
import Derived.Test.YtkejmifkjgpdjaaM6
import Derived.Test.YtkejmifkjgpdjaaM12
import Derived.Test.YtkejmifkjgpdjaaM4
import Derived.Deep.RegionHeld3
import Derived.Lib.AppendZerosOnto
import Derived.Lib.SliceRun
namespace Go.Proofs.Ytkejmifkjgpdjaa
open Go.RowKit
set_option linter.unusedVariables false
set_option linter.unusedSimpArgs false

theorem own_ats {w : World} {B : Nat} {v : Value} {n : Nat} {l : List At} (h : w.ownsRow B 86 2 v n (atC l)) (hn : l.length = n) : ∃ a c, v = .slice a n c ∧ OwnAts w B a l := by
  rcases h.2 with ⟨rfl, rfl⟩ | ⟨g, cp, cur, rfl, hg, hh, hn', hc, hs, ht⟩
  · exact ⟨none, 0, rfl, fun hl => by omega⟩
  · refine ⟨_, cp, rfl, fun _ => ⟨g, 0, cur, rfl, hg, hh, fun j hj => ?_⟩⟩
    obtain ⟨g1, g2⟩ := atC_get l j hj
    rw [← ht, List.getElem?_take] at g1 g2
    refine ⟨?_, ?_⟩
    · rw [Nat.zero_add, ← Array.getElem?_toList]
      split at g1
      · exact g1
      · cases g1
    · rw [Nat.zero_add, ← Array.getElem?_toList]
      split at g2
      · exact g2
      · cases g2

set_option maxRecDepth 8000 in
set_option maxHeartbeats 8000000 in
theorem cCopiedAttrs (a : Option Addr) (cap : Nat) (l : List At) (w : World) (hR : AtRow w a l) (hz : AtSz 1048576 l) (hn : l.length ≤ 1048576) :
    Calls Try.prog 72 #[.slice a l.length cap] w fun e w' => ∃ a' c', e = .returned (.slice a' l.length c') ∧ OwnAts w' w.heap.size a' l ∧ Below w.heap.size w w' := by
  obtain ⟨i0, hi, hz0, hz1, hz2⟩ := info_parts infoAtW
  have HI := hid (And.intro hi (And.intro hz0 (And.intro hz1 hz2)))
  have HR := hid hR
  have HZ := hid hz
  clear hR hz hi hz0 hz1 hz2
  obtain ⟨n, hnn⟩ : ∃ n, l.length = n := ⟨_, rfl⟩
  have HN := hid hnn
  rw [hnn] at hn ⊢
  clear hnn
  go_enter Try.func72, Try.ntmps72
  go_wp2_with fail
  go_loopw [3, 8] (fun v k wr => ∃ i : Nat, k = .int .i64 (i : Int) ∧ i ≤ n ∧ Hid (wr.ownsRow w.heap.size 86 2 v i (atC (l.take i))) ∧ Hid (Below w.heap.size w wr)) (fun _ k _ => n - (intOf k).toNat)
  case atStart => exact ⟨0, rfl, Nat.zero_le _, World.ownsRow_nil _ _ _ _, Below.refl _ _⟩
  case round =>
    obtain ⟨i, rfl, hin, HO, HB⟩ := hrel
    by_cases hlt : i < n
    case neg =>
      have hie : i = n := by omega
      subst hie
      have HO2 := HO.out
      rw [List.take_of_length_le (by rw [HN.out]; exact Nat.le_refl _)] at HO2
      obtain ⟨a', c', hv, hoa⟩ := own_ats HO2 HN.out
      have HOA := hid hoa
      subst hv
      clear HO2 hoa
      go_wp2_with fail
      go_ret
      exact ⟨_, _, rfl, HOA.out, HB.out⟩
    have his : i < l.length := by rw [HN.out]; exact hlt
    have hinn : (i : Int) < (n : Int) := by omega
    obtain ⟨b, o, rfl, hb, c1, c2⟩ := (HR.out.below HB.out) i his
    obtain ⟨z1, z2⟩ := HZ.out _ (List.getElem_mem his)
    have HX := hid (show atC (l.take (i + 1)) = atC (l.take i) ++ [.string l[i].name, .string l[i].value] by rw [take_snocN his, atC_app]; rfl)
    have CX := hid (fun w => c_strings_Clone l[i].name w z1)
    have CY := hid (fun w => c_strings_Clone l[i].value w z2)
    generalize l[i].name = x at *
    generalize l[i].value = y at *
    clear z1 z2
    have M := hid (heap_alloc_new wr (.cells #[.string x, .string y] 86))
    have HB0 := hid (HB.out.alloc HB.out.size (.cells #[.string x, .string y] 86))
    have HO0 := hid (HO.out.alloc (.cells #[.string x, .string y] 86))
    have HVL := hid (fun k e => (HO.out.lt k e).2)
    have hws := HB.out.size
    obtain ⟨a5, c5, hv5⟩ := own_len HO.out
    obtain ⟨g, hg⟩ : ∃ g, wr.heap.size = g := ⟨_, rfl⟩
    have Hg := hid hg
    subst hv5
    clear HO
    go_wp2_with fail
    obtain ⟨W0, hW0⟩ : ∃ W0, wr.alloc (.cells #[.string x, .string y] 86) = W0 := ⟨_, rfl⟩
    rw [hW0] at M HB0 HO0
    simp only [hW0, hg] at M ⊢
    have HBc := hid ((Below.refl W0.heap.size W0).drew)
    have hgl := hid (lt_of_heap M.out)
    have hk := hid (box2c M.out)
    have HON := hid (show ∀ u ∈ [Value.string x, Value.string y], u.oneCell' = true by
      intro u hu
      simp at hu
      rcases hu with rfl | rfl <;> rfl)
    clear c1 c2 hW0
    rw [hg] at HVL hws
    obtain ⟨hi, hz0, hz1, hz2⟩ := HI.out
    go_region_held3 (fun w' => w'.cell? ⟨g, 0, none⟩ = some (.string x) ∧ w'.cell? ⟨g, 1, none⟩ = some (.string y)) (first | exact HK.out | exact ⟨(HBc.out.cell (p := ⟨g, 0, none⟩) hgl.out).trans hk.out.1, (HBc.out.cell (p := ⟨g, 1, none⟩) hgl.out).trans hk.out.2⟩ | go_keep)
      (first
        | (go_at_call 71; refine (CX.out _).mono ?_; rintro e w1 ⟨rfl, hb1⟩; replace HBc := hid (bb HBc.out hb1); clear hb1)
        | (go_at_call 71; refine (CY.out _).mono ?_; rintro e w1 ⟨rfl, hb1⟩; replace HBc := hid (bb HBc.out hb1); clear hb1)
        | (refine step_app_at rfl (.tmp 12) (.tmp 20) 48 rfl w.heap.size 86 i0 _ 2 32 Try.underlying48 hi hz0 hz1 hz2 rfl (by decide) (.slice a5 i c5) i (atC (l.take i)) (by simp [Act.eval, Act.put]) ((ownsRow_below HO0.out HBc.out).alloc _) ⟨_, 0, none⟩ 1 1 [.string x, .string y] (by simp [Act.eval, Act.put]) rfl (two_cells _ _ _ _) HON.out (by unfold maxLen; omega) (by omega) (by simp; have := HBc.out.size; have := hgl.out; omega) ?_; intro v' w2 hown' hgrow hv'; have HBd := hid (bb HBc.out ((Below.refl _ _).alloc (Nat.le_refl _) (.cells #[.string x, .string y] 86))); have HK := hid (And.intro (cell_grownR hgrow ((HBd.out.cell (p := ⟨g, 0, none⟩) hgl.out).trans hk.out.1) (Nat.lt_of_lt_of_le hgl.out HBd.out.size) (fun e => by (have := HVL.out _ e; omega))) (cell_grownR hgrow ((HBd.out.cell (p := ⟨g, 1, none⟩) hgl.out).trans hk.out.2) (Nat.lt_of_lt_of_le hgl.out HBd.out.size) (fun e => by (have := HVL.out _ e; omega))))))
    have HO2 := hid (show w2.ownsRow w.heap.size 86 2 v' (i + 1) (atC (l.take (i + 1))) by rw [HX.out]; exact hown')
    have HB2 := hid ((bb HB0.out HBd.out).grown hgrow (by have := (bb HB0.out HBd.out).size; exact this) (fun k e => ((ownsRow_below HO0.out HBc.out).lt k e).1))
    obtain ⟨a6, c6, hv6⟩ := own_len hown'
    subst hv6
    clear hown' hgrow hv' HK HBd
    go_wp2_with fail
    go_roundw
    case rel => exact ⟨i + 1, by go_num, by omega, HO2.out, HB2.out⟩
    case measure => simp [intOf]; omega

/-- Four cells, in whatever world behind. -/
theorem box4_later {W0 : World} {g : Nat} {x y z u : Value} {T : TypeId} (h : W0.heap[g]? = some (.cells #[x, y, z, u] T (0, 0))) :
    (∀ W', Below W0.heap.size W0 W' → W'.cell? ⟨g, 0, none⟩ = some x) ∧ (∀ W', Below W0.heap.size W0 W' → W'.cell? ⟨g, 1, none⟩ = some y) ∧ (∀ W', Below W0.heap.size W0 W' → W'.cell? ⟨g, 2, none⟩ = some z) ∧ (∀ W', Below W0.heap.size W0 W' → W'.cell? ⟨g, 3, none⟩ = some u)
      ∧ (∀ W', Below W0.heap.size W0 W' → W'.frozen? ⟨g, 0, none⟩ = false) ∧ (∀ W', Below W0.heap.size W0 W' → W'.frozen? ⟨g, 1, none⟩ = false) ∧ (∀ W', Below W0.heap.size W0 W' → W'.frozen? ⟨g, 2, none⟩ = false) ∧ (∀ W', Below W0.heap.size W0 W' → W'.frozen? ⟨g, 3, none⟩ = false) := by
  have k : ∀ W', Below W0.heap.size W0 W' → W'.heap[g]? = some (.cells #[x, y, z, u] T (0, 0)) := fun W' hb => (hb.block g (lt_of_heap h)).trans h
  exact ⟨fun W' hb => (box4 (k W' hb)).1.1, fun W' hb => (box4 (k W' hb)).1.2.1, fun W' hb => (box4 (k W' hb)).1.2.2.1, fun W' hb => (box4 (k W' hb)).1.2.2.2, fun W' hb => (box4 (k W' hb)).2.1, fun W' hb => (box4 (k W' hb)).2.2.1, fun W' hb => (box4 (k W' hb)).2.2.2.1, fun W' hb => (box4 (k W' hb)).2.2.2.2⟩

theorem OwnAts.mono {w : World} {B B' : Nat} {a : Option Addr} {l : List At} (h : OwnAts w B' a l) (hB : B ≤ B') : OwnAts w B a l := by
  intro hl
  obtain ⟨g, o, cu, e, h1, h2, h3⟩ := h hl
  exact ⟨g, o, cu, e, Nat.le_trans hB h1, h2, h3⟩

theorem OwnAts.set {w : World} {B : Nat} {a : Option Addr} {l : List At} (h : OwnAts w B a l) {g : Nat} (hg : g < B) (o : Nat) (v : Value) : OwnAts (w.setCell ⟨g, o, none⟩ v) B a l := by
  intro hl
  obtain ⟨g', o', cu, e, h1, h2, h3⟩ := h hl
  exact ⟨g', o', cu, e, h1, (heap_setCell_other w ⟨g, o, none⟩ g' v (by show ¬ g' = g; omega)).trans h2, h3⟩

end Go.Proofs.Ytkejmifkjgpdjaa

namespace Go.Proofs.Ytkejmifkjgpdjaa
open Go.RowKit
set_option linter.unusedVariables false
set_option linter.unusedSimpArgs false

/-- copy of a row into a new one of the same length. -/
theorem run_copyN (W : World) (g n dc : Nat) (sa : Option Addr) (sc : Nat)
    (cur : Array Value) (hg : W.heap[g]? = some (.cells cur 50 (0, 0))) (hcu : cur.size = n * 4) (cs : List Value) (hcl : cs.length = n * 4) (hsrc : ∀ ad, sa = some ad → ∀ j v, cs[j]? = some v → W.cell? (ad.add j) = some v) (hnil : sa = none → n = 0) (h1 : ∀ v ∈ cs, v.oneCell' = true) :
    ∃ w', (∀ ty, (Builtin.copy_ #[26, 26] ty #[.slice (some ⟨g, 0, none⟩) n dc, .slice sa n sc]).run Try.prog W = .ok (goInt n) w') ∧ w'.heap[g]? = some (.cells cs.toArray 50 (0, 0)) ∧ Below g W w' := by
  obtain ⟨i0, hi, hz0, hz1, hz2⟩ := info_parts Nd.infoR
  have hf : (Builtin.firstCells i0.size n (.slice sa n sc)).run Try.prog W = .ok cs.toArray W := by
    cases sa with
    | none =>
      have h0 := hnil rfl
      subst h0
      have h0 : cs = [] := List.eq_nil_of_length_eq_zero (by simpa using hcl)
      rw [h0]
      exact run_firstCells_none W _ _ _ _
    | some ad => exact run_firstCells_some W _ _ ad _ _ cs (by rw [hz1]; exact hcl) (hsrc ad rfl)
  have hst := run_storeCells_at Try.prog g 0 50 cs 0 cur W hg (by rw [hcu, ← hcl]; omega) h1
  have hrow : (cur.toList.take (0 + 0) ++ cs ++ cur.toList.drop (0 + 0 + cs.length)).toArray = cs.toArray := by
    rw [List.drop_of_length_le (by simp; omega)]
    simp
  rw [hrow] at hst
  refine ⟨W.setRow g cs.toArray, fun ty => ?_, setRow_heap W g _ _ _ _ hg, below_setRow (Below.refl _ _) (Nat.le_refl _) _⟩
  simp [Builtin.copy_, run_underlying Try.underlying26, Builtin.lenOf, sizeOf, typeInfo, hi, hf, hst]

/-- A row as cells, wherever it lies. -/
theorem rowA {w : World} {a : Option Addr} {ts : List Tk} (h : TkRow w a ts) : ∃ es : List Nd.E, es.map (·.t) = ts ∧ (∀ ad, a = some ad → ∀ j u, (Nd.cs es)[j]? = some u → w.cell? (ad.add j) = some u) ∧ (a = none → ts.length = 0) := by
  cases ts with
  | nil => exact ⟨[], rfl, fun ad _ j u hj => by simp [Nd.cs] at hj, fun _ => rfl⟩
  | cons t ts =>
    obtain ⟨b, o, aa, ca, e, _⟩ := h 0 (by simp)
    subst e
    obtain ⟨es, e1, e2, _⟩ := rowG h (t :: ts).length (Nat.le_refl _)
    rw [List.take_of_length_le (Nat.le_refl _)] at e1
    exact ⟨es, e1, fun ad ha => by cases ha; exact e2, fun h => by cases h⟩

/-- A node whose Parent is from here on is so much further. -/
def mvT (k b : Int) (t : Tk) : Tk := if k ≤ t.kind then shK (t.kind + b) t else t

def mvL (k b : Int) (ts : List Tk) : List Tk := ts.map (mvT k b)

/-- The first ones are told anew, with attrs of their own; the others are as they were copied. -/
structure MvR (w wr : World) (g : Nat) (i : Nat) (M : List Tk) (es : List Nd.E) : Prop where
  bel : Below w.heap.size w wr
  ge : w.heap.size ≤ g
  heap : wr.heap[g]? = some (.cells (Nd.cs es).toArray 50 (0, 0))
  map : es.map (·.t) = M
  ats : ∀ e ∈ es.take i, OwnAts wr w.heap.size e.a e.t.attrs ∧ ∀ g' o, 0 < e.t.attrs.length → e.a = some ⟨g', o, none⟩ → ¬ g' = g
  apart : (es.take i).Pairwise Nd.Apart

theorem MvR.below {w wr w' : World} {g i : Nat} {M : List Tk} {es : List Nd.E} (h : MvR w wr g i M es) (hb : Below wr.heap.size wr w') : MvR w w' g i M es :=
  ⟨bb h.bel hb, h.ge, blk_below h.heap hb, h.map, fun e he => ⟨(h.ats e he).1.below hb, (h.ats e he).2⟩, h.apart⟩

theorem MvR.at {w wr : World} {g i : Nat} {M : List Tk} {es : List Nd.E} (h : MvR w wr g i M es) {t : Tk} {x : Nat} (hx : M[x]? = some t) : ∃ hl : x < es.length, es[x].t = t := by
  have hxl : x < es.length := by
    rcases Nat.lt_or_ge x es.length with h' | h'
    · exact h'
    · rw [← h.map, List.getElem?_eq_none (by rw [List.length_map]; omega)] at hx; cases hx
  refine ⟨hxl, ?_⟩
  have : (es.map (·.t))[x]? = some t := by rw [h.map]; exact hx
  rw [List.getElem?_map, List.getElem?_eq_getElem hxl] at this
  exact Option.some.inj this

theorem MvR.cells {w wr : World} {g i : Nat} {M : List Tk} {es : List Nd.E} (h : MvR w wr g i M es) {t : Tk} {x : Nat} (hx : M[x]? = some t) :
    (wr.cell? ⟨g, x * 4, none⟩ = some (.int .i64 t.kind) ∧ wr.cell? ⟨g, x * 4 + 1, none⟩ = some (.string t.name) ∧ (∃ aa ca, wr.cell? ⟨g, x * 4 + 2, none⟩ = some (.slice aa t.attrs.length ca)) ∧ wr.cell? ⟨g, x * 4 + 3, none⟩ = some (.string t.text)) ∧ ∀ j, wr.frozen? ⟨g, j, none⟩ = false := by
  obtain ⟨hl, ht⟩ := h.at hx
  obtain ⟨k0, k1, k2, k3⟩ := Nd.cs_get es x hl
  have hc : ∀ j, wr.cell? ⟨g, j, none⟩ = (Nd.cs es)[j]? := fun j => by rw [Lib.cell_of_heap h.heap]; simp
  rw [ht] at k0 k1 k2 k3
  exact ⟨⟨(hc _).trans k0, (hc _).trans k1, ⟨_, _, (hc _).trans k2⟩, (hc _).trans k3⟩, fun j => Lib.frozen_of_heap h.heap j⟩

/-- .. in whatever world behind. -/
theorem MvR.later {w W0 : World} {g i : Nat} {M : List Tk} {es : List Nd.E} (h : MvR w W0 g i M es) {t : Tk} {x : Nat} (hx : M[x]? = some t) : ∃ aa ca,
    ((∀ W', Below W0.heap.size W0 W' → W'.cell? ⟨g, x * 4 + 1, none⟩ = some (.string t.name)) ∧ (∀ W', Below W0.heap.size W0 W' → W'.cell? ⟨g, x * 4 + 2, none⟩ = some (.slice aa t.attrs.length ca)) ∧ (∀ W', Below W0.heap.size W0 W' → W'.cell? ⟨g, x * 4 + 3, none⟩ = some (.string t.text)))
      ∧ ((∀ W', Below W0.heap.size W0 W' → W'.frozen? ⟨g, x * 4 + 1, none⟩ = false) ∧ (∀ W', Below W0.heap.size W0 W' → W'.frozen? ⟨g, x * 4 + 2, none⟩ = false) ∧ (∀ W', Below W0.heap.size W0 W' → W'.frozen? ⟨g, x * 4 + 3, none⟩ = false)) := by
  obtain ⟨⟨_, _, ⟨aa, ca, q2⟩, _⟩, _⟩ := h.cells hx
  have hlt : g < W0.heap.size := lt_of_heap h.heap
  refine ⟨aa, ca, ⟨fun W' hb => (h.below hb).cells hx |>.1.2.1, fun W' hb => (hb.cell (p := ⟨g, x * 4 + 2, none⟩) hlt).trans q2, fun W' hb => (h.below hb).cells hx |>.1.2.2.2⟩, fun W' hb => (h.below hb).cells hx |>.2 _, fun W' hb => (h.below hb).cells hx |>.2 _, fun W' hb => (h.below hb).cells hx |>.2 _⟩

theorem set3_far {w : World} {g b j o1 o2 o3 : Nat} {x y z : Value} (h : ¬ g = b) : (((w.setCell ⟨g, o1, none⟩ x).setCell ⟨g, o2, none⟩ y).setCell ⟨g, o3, none⟩ z).cell? ⟨b, j, none⟩ = w.cell? ⟨b, j, none⟩ := by
  rw [World.cell?_setCell_far _ _ _ _ h, World.cell?_setCell_far _ _ _ _ h, World.cell?_setCell_far _ _ _ _ h]

theorem set2_far {w : World} {g b j o1 o2 : Nat} {x y : Value} (h : ¬ g = b) : ((w.setCell ⟨g, o1, none⟩ x).setCell ⟨g, o2, none⟩ y).cell? ⟨b, j, none⟩ = w.cell? ⟨b, j, none⟩ := by
  rw [World.cell?_setCell_far _ _ _ _ h, World.cell?_setCell_far _ _ _ _ h]

theorem set1_far {w : World} {g b j o1 : Nat} {x : Value} (h : ¬ g = b) : (w.setCell ⟨g, o1, none⟩ x).cell? ⟨b, j, none⟩ = w.cell? ⟨b, j, none⟩ := World.cell?_setCell_far _ _ _ _ h

theorem cells_set {es : List Nd.E} (j : Nat) (v : Value) : (Nd.cs es).toArray.setIfInBounds j v = ((Nd.cs es).set j v).toArray := by simp

theorem take_set_snoc {α : Type} {l : List α} {i : Nat} (h : i < l.length) (x : α) : (l.set i x).take (i + 1) = l.take i ++ [x] := by
  rw [take_snocN (by rw [List.length_set]; exact h), List.take_set_of_le (Nat.le_refl _), List.getElem_set_self]

/-- The next one: its texts are cloned, its attrs copied. -/
theorem MvR.step {w wr w1 : World} {g i : Nat} {M : List Tk} {es : List Nd.E} (h : MvR w wr g i M es) {t : Tk} (hx : M[i]? = some t) (hb : Below wr.heap.size wr w1) {a1 : Option Addr} {c1 nA : Nat} (hnA : t.attrs.length = nA) (hA : OwnAts w1 wr.heap.size a1 t.attrs) :
    ∃ es', MvR w (((w1.setCell ⟨g, i * 4 + 1, none⟩ (.string t.name)).setCell ⟨g, i * 4 + 2, none⟩ (.slice a1 nA c1)).setCell ⟨g, i * 4 + 3, none⟩ (.string t.text)) g (i + 1) M es' := by
  obtain ⟨hl, ht⟩ := h.at hx
  subst hnA
  have hgw : g < wr.heap.size := lt_of_heap h.heap
  have hg1 := blk_below h.heap hb
  have e1 : (Nd.cs es).set (i * 4 + 1) (.string t.name) = Nd.cs es := by
    rw [cs_put hl (f := 1) (by decide) (e' := es[i]) (by rw [← ht]; rfl), List.set_getElem_self]
  have e2 : (Nd.cs es).set (i * 4 + 2) (.slice a1 t.attrs.length c1) = Nd.cs (es.set i ⟨t, a1, c1⟩) := cs_put hl (f := 2) (by decide) (by unfold Nd.c1; rw [ht]; rfl)
  have hl2 : i < (es.set i ⟨t, a1, c1⟩).length := by rw [List.length_set]; exact hl
  have e3 : (Nd.cs (es.set i ⟨t, a1, c1⟩)).set (i * 4 + 3) (.string t.text) = Nd.cs (es.set i ⟨t, a1, c1⟩) := by
    rw [cs_put hl2 (f := 3) (by decide) (e' := ⟨t, a1, c1⟩) (by rw [List.getElem_set_self]; rfl), List.set_set]
  have m1 := box_set hg1 (i * 4 + 1) (.string t.name)
  rw [cells_set, e1] at m1
  have m2 := box_set m1 (i * 4 + 2) (.slice a1 t.attrs.length c1)
  rw [cells_set, e2] at m2
  have m3 := box_set m2 (i * 4 + 3) (.string t.text)
  rw [cells_set, e3] at m3
  have hB := bb h.bel hb
  have hbw := h.bel.size
  have keep : ∀ (B : Nat) (a : Option Addr) (l : List At), OwnAts w1 B a l → (∀ g' o, 0 < l.length → a = some ⟨g', o, none⟩ → ¬ g' = g) → OwnAts (((w1.setCell ⟨g, i * 4 + 1, none⟩ (.string t.name)).setCell ⟨g, i * 4 + 2, none⟩ (.slice a1 t.attrs.length c1)).setCell ⟨g, i * 4 + 3, none⟩ (.string t.text)) B a l := by
    intro B a l hO hne hp
    obtain ⟨g1, o1, cu, q1, q2, q3, q4⟩ := hO hp
    have hn := hne g1 o1 hp q1
    refine ⟨g1, o1, cu, q1, q2, ?_, q4⟩
    rw [heap_setCell_other _ _ g1 _ hn, heap_setCell_other _ _ g1 _ hn, heap_setCell_other _ _ g1 _ hn]
    exact q3
  have hnew : ∀ g' o, 0 < t.attrs.length → a1 = some ⟨g', o, none⟩ → ¬ g' = g := by
    intro g' o hp e
    obtain ⟨g1, o1, cu, q1, q2, _⟩ := hA hp
    rw [e] at q1
    cases q1
    omega
  refine ⟨es.set i ⟨t, a1, c1⟩, ((hB.setCell (p := ⟨g, i * 4 + 1, none⟩) h.ge _).setCell (p := ⟨g, i * 4 + 2, none⟩) h.ge _).setCell (p := ⟨g, i * 4 + 3, none⟩) h.ge _, h.ge, m3, ?_, ?_, ?_⟩
  · rw [List.map_set, h.map]
    refine List.ext_getElem? fun j => ?_
    rw [List.getElem?_set]
    split
    · rename_i hj
      subst hj
      rw [hx]
      split
      · rfl
      · rename_i hh
        rw [List.getElem?_eq_none (by omega)] at hx
        cases hx
    · rfl
  · rw [take_set_snoc hl]
    intro e he
    rcases List.mem_append.1 he with h' | h'
    · exact ⟨keep _ _ _ ((h.ats e h').1.below hb) (h.ats e h').2, (h.ats e h').2⟩
    · rw [List.mem_singleton] at h'
      subst h'
      exact ⟨keep _ _ _ (own_lift hA hbw) hnew, hnew⟩
  · rw [take_set_snoc hl]
    refine List.pairwise_append.2 ⟨h.apart, List.pairwise_singleton _ _, fun e he f hf => ?_⟩
    rw [List.mem_singleton] at hf
    subst hf
    intro hp hp' g1 o1 g2 o2 q1 q2 q3
    obtain ⟨k1, ko, cu, r1, r2, r3, _⟩ := (h.ats e he).1 hp
    obtain ⟨k2, ko2, cu2, s1, s2, _⟩ := hA hp'
    rw [q1] at r1
    cases r1
    have s1' : (some ⟨g2, o2, none⟩ : Option Addr) = some ⟨k2, ko2, none⟩ := q2.symm.trans s1
    cases s1'
    have := lt_of_heap r3
    omega

/-- .. and its Parent. -/
theorem MvR.kind {w wr : World} {g i : Nat} {M : List Tk} {es : List Nd.E} (h : MvR w wr g (i + 1) M es) {t : Tk} (hx : M[i]? = some t) (k : Int) : ∃ es', MvR w (wr.setCell ⟨g, i * 4, none⟩ (.int .i64 k)) g (i + 1) (M.set i (shK k t)) es' := by
  obtain ⟨hl, ht⟩ := h.at hx
  have hgw : g < wr.heap.size := lt_of_heap h.heap
  have e0 : (Nd.cs es).set (i * 4) (.int .i64 k) = Nd.cs (es.set i ⟨shK k t, es[i].a, es[i].cap⟩) := cs_put hl (f := 0) (by decide) (by unfold Nd.c1; rw [ht]; rfl)
  have m1 := box_set h.heap (i * 4) (.int .i64 k)
  rw [cells_set, e0] at m1
  have keep : ∀ (B : Nat) (a : Option Addr) (l : List At), OwnAts wr B a l → (∀ g' o, 0 < l.length → a = some ⟨g', o, none⟩ → ¬ g' = g) → OwnAts (wr.setCell ⟨g, i * 4, none⟩ (.int .i64 k)) B a l := by
    intro B a l hO hne hp
    obtain ⟨g1, o1, cu, q1, q2, q3, q4⟩ := hO hp
    refine ⟨g1, o1, cu, q1, q2, ?_, q4⟩
    rw [heap_setCell_other _ _ g1 _ (hne g1 o1 hp q1)]
    exact q3
  have hm : ∀ e ∈ es.take i, e ∈ es.take (i + 1) := fun e he => by rw [take_snocN hl]; exact List.mem_append_left _ he
  have hlast : es[i] ∈ es.take (i + 1) := by rw [take_snocN hl]; exact List.mem_append_right _ (List.mem_singleton.2 rfl)
  have hpa := h.apart
  rw [take_snocN hl, List.pairwise_append] at hpa
  have hai := h.ats _ hlast
  rw [ht] at hai
  refine ⟨es.set i ⟨shK k t, es[i].a, es[i].cap⟩, h.bel.setCell (p := ⟨g, i * 4, none⟩) h.ge _, h.ge, m1, by rw [List.map_set, h.map], ?_, ?_⟩
  · rw [take_set_snoc hl]
    intro e he
    rcases List.mem_append.1 he with h' | h'
    · exact ⟨keep _ _ _ (h.ats e (hm e h')).1 (h.ats e (hm e h')).2, (h.ats e (hm e h')).2⟩
    · rw [List.mem_singleton] at h'
      subst h'
      exact ⟨keep _ _ _ hai.1 hai.2, hai.2⟩
  · rw [take_set_snoc hl]
    refine List.pairwise_append.2 ⟨hpa.1, List.pairwise_singleton _ _, fun e he f hf => ?_⟩
    rw [List.mem_singleton] at hf
    subst hf
    have hh := hpa.2.2 e he es[i] (by simp)
    unfold Nd.Apart at hh ⊢
    rw [ht] at hh
    exact hh

/-- All of them. -/
theorem MvR.row {w wr : World} {g n : Nat} {M : List Tk} {es : List Nd.E} (h : MvR w wr g n M es) (hn : M.length = n) (hm : n ≤ 1048576) : RowOf w wr (.slice (some ⟨g, 0, none⟩) n n) M := by
  have hl : es.length = n := by rw [← hn, ← h.map, List.length_map]
  have hall : es.take n = es := List.take_of_length_le (by omega)
  have ha := h.ats
  have hp := h.apart
  rw [hall] at ha hp
  subst hl
  exact ⟨⟨es, _, _, rfl, ⟨⟨Nd.cs_len es, .inr ⟨g, es.length, _, rfl, h.ge, h.heap, Nat.le_refl _, by unfold maxLen; omega, by simp [Nd.cs_len], by simp [← Nd.cs_len]⟩⟩, fun e he => ⟨(ha e he).1, fun g' o hl e1 e2 => (ha e he).2 g' o hl e1 (by simp [Value.ownBlock] at e2; exact e2.symm)⟩, hp⟩, h.map⟩, h.bel⟩

/-- So far. -/
def mvI (k b : Int) (ts : List Tk) (i : Nat) : List Tk := (ts.take i).map (mvT k b) ++ ts.drop i

theorem mvI_at {k b : Int} {ts : List Tk} {i : Nat} (h : i < ts.length) : (mvI k b ts i)[i]? = some ts[i] := by
  unfold mvI
  rw [List.getElem?_append_right (by simp; omega)]
  simp only [List.length_map, List.length_take, Nat.min_eq_left (Nat.le_of_lt h), Nat.sub_self, List.getElem?_drop, Nat.add_zero]
  exact List.getElem?_eq_getElem h

theorem mvI_set {k b : Int} {ts : List Tk} {i : Nat} (h : i < ts.length) (x : Tk) (hx : mvT k b ts[i] = x) : (mvI k b ts i).set i x = mvI k b ts (i + 1) := by
  unfold mvI
  rw [List.set_append, if_neg (by simp; exact Nat.min_le_left _ _), take_snocN h, List.map_append, List.append_assoc]
  congr 1
  simp only [List.length_map, List.length_take, Nat.min_eq_left (Nat.le_of_lt h), Nat.sub_self]
  rw [List.drop_eq_getElem_cons h, List.set_cons_zero]
  simp [hx]

theorem mvI_same {k b : Int} {ts : List Tk} {i : Nat} (h : i < ts.length) (hx : mvT k b ts[i] = ts[i]) : mvI k b ts i = mvI k b ts (i + 1) := by
  rw [← mvI_set h _ hx]
  refine List.ext_getElem? fun j => ?_
  rw [List.getElem?_set]
  split
  · rename_i hj
    subst hj
    rw [mvI_at h]
    split
    · rfl
    · rename_i hh
      exact absurd (by unfold mvI; simp; omega) hh
  · rfl

theorem mvI_all {k b : Int} {ts : List Tk} {n : Nat} (h : ts.length = n) : mvI k b ts n = mvL k b ts := by
  unfold mvI mvL
  rw [List.take_of_length_le (by omega), List.drop_of_length_le (by omega), List.append_nil]

theorem mvL_len (k b : Int) (ts : List Tk) : (mvL k b ts).length = ts.length := by simp [mvL]

set_option maxRecDepth 8000 in
set_option maxHeartbeats 8000000 in
theorem cMoved (a : Option Addr) (cap : Nat) (ts : List Tk) (k b : Int) (w : World) (hR : TkRow w a ts) (hn : ts.length ≤ 1048576) (hz : TksSz 1048576 ts) (hkb : ∀ t ∈ ts, k ≤ t.kind → -9223372036854775808 ≤ t.kind + b ∧ t.kind + b ≤ 9223372036854775807) :
    Calls Try.prog 50 #[.slice a ts.length cap, .int .i64 k, .int .i64 b] w fun e w' => ∃ c, e = .returned (.slice (some ⟨w.heap.size, 0, none⟩) ts.length c) ∧ RowOf w w' (.slice (some ⟨w.heap.size, 0, none⟩) ts.length c) (mvL k b ts) := by
  have HR := hid hR
  have HZ := hid hz
  have HKB := hid hkb
  clear hR hz hkb
  obtain ⟨n, hnn⟩ : ∃ n, ts.length = n := ⟨_, rfl⟩
  have HN := hid hnn
  rw [hnn] at hn ⊢
  clear hnn
  go_enter Try.func50, Try.ntmps50
  go_wp2_with fail
  refine upon_ex (Nd.makeTk w n hn) ?_
  rintro _ w1 ⟨rfl, ⟨cur, hcur, hcs⟩, hg⟩
  have HB1 := hid ((Below.refl w.heap.size w).grown hg (Nat.le_refl _) (by simp))
  have HC := hid hcur
  have HCS := hid hcs
  have HR1 := hid (HR.out.below HB1.out)
  clear hg hcur hcs
  obtain ⟨es, hm, hsrc, hnil⟩ := rowA HR1.out
  have HM := hid hm
  have HSRC := hid hsrc
  have HNIL := hid (show a = none → n = 0 from fun h => by rw [← HN.out]; exact hnil h)
  have HEL := hid (show (Nd.cs es).length = n * 4 by rw [Nd.cs_len, ← HN.out, ← HM.out, List.length_map])
  clear hm hsrc hnil
  obtain ⟨w2, hrun, hh2, hb2⟩ := run_copyN w1 w.heap.size n n a cap cur HC.out HCS.out (Nd.cs es) HEL.out HSRC.out HNIL.out (Nd.cs_cell es)
  have HX := hid (show MvR w w2 w.heap.size 0 (mvI k b ts 0) es from ⟨HB1.out.trans hb2, Nat.le_refl _, hh2, by unfold mvI; simp; exact HM.out, fun e he => absurd he (by simp), by simp⟩)
  clear hh2 hb2 HB1 HC HCS HR1 HSRC HNIL HEL HM
  go_wp2_with fail
  clear hrun
  go_loopw [18] (fun v wr => ∃ i : Nat, v = .int .i64 (i : Int) ∧ i ≤ n ∧ Hid (∃ es, MvR w wr w.heap.size i (mvI k b ts i) es)) (fun v _ => n - (intOf v).toNat)
  case atStart => exact ⟨0, rfl, Nat.zero_le _, _, HX.out⟩
  case round =>
    clear HX es
    obtain ⟨i, rfl, hin, HX⟩ := hrel
    by_cases hlt : i < n
    case neg =>
      have hie : i = n := by omega
      subst hie
      obtain ⟨es, hes⟩ := HX.out
      have HY := hid (hes.row (by rw [mvI_all HN.out, mvL_len, HN.out]) hn)
      rw [mvI_all HN.out] at HY
      clear hes
      go_wp2_with fail
      go_ret
      exact ⟨_, rfl, HY.out⟩
    have his : i < ts.length := by rw [HN.out]; exact hlt
    have hinn : (i : Int) < (n : Int) := by omega
    obtain ⟨es, hes⟩ := HX.out
    have HES := hid hes
    have HBW := hid hes.bel
    have HAT := hid (mvI_at (k := k) (b := b) his)
    have HSET := hid (fun x hx => mvI_set (k := k) (b := b) his x hx)
    have HSAME := hid (fun hx => mvI_same (k := k) (b := b) his hx)
    have HZT := hid (HZ.out _ (List.getElem_mem his))
    have HKT := hid (HKB.out _ (List.getElem_mem his))
    clear hes HX
    obtain ⟨bk, o, aa, ca, rfl, hb, q0, q1, q2, q3, hA⟩ := (HR.out.below HBW.out) i his
    have HAR := hid hA
    obtain ⟨t, ht⟩ : ∃ t, ts[i] = t := ⟨_, rfl⟩
    rw [ht] at q0 q1 q2 q3 HAR HZT HKT HAT HSET HSAME
    clear ht hA
    obtain ⟨M, hMM⟩ : ∃ M, mvI k b ts i = M := ⟨_, rfl⟩
    rw [hMM] at HES HAT HSET HSAME
    clear hMM
    obtain ⟨M', hMM⟩ : ∃ M, mvI k b ts (i + 1) = M := ⟨_, rfl⟩
    have HM' := hid hMM
    rw [hMM] at HSET HSAME
    clear hMM
    obtain ⟨K, nm, l, tx⟩ := t
    simp only at q0 q1 q2 q3 HAR HKT
    obtain ⟨z1, z2, z3, z4⟩ := HZT.out
    simp only at z1 z2 z3 z4
    have CX := hid (fun w => c_strings_Clone nm w z1)
    have CY := hid (fun w => c_strings_Clone tx w z4)
    have CA := hid (fun w (h : AtRow w aa l) => cCopiedAttrs aa ca l w h z3 z2)
    clear z1 z2 z3 z4 HZT
    obtain ⟨nA, hnA⟩ : ∃ nA, l.length = nA := ⟨_, rfl⟩
    have HNA := hid hnA
    rw [hnA] at q2 CA
    clear hnA
    have M0 := hid (heap_alloc_new wr (.cells #[.int .i64 K, .string nm, .slice aa nA ca, .string tx] 50))
    have HLA := hid ((Below.refl wr.heap.size wr).alloc (Nat.le_refl _) (.cells #[.int .i64 K, .string nm, .slice aa nA ca, .string tx] 50))
    have hne : ¬ w.heap.size = wr.heap.size := by have := lt_of_heap HES.out.heap; omega
    have HE0 := hid (HES.out.below HLA.out)
    have HA0 := hid (HAR.out.below HLA.out)
    go_wp2_with fail
    obtain ⟨W0, hW0⟩ : ∃ W0, wr.alloc (.cells #[.int .i64 K, .string nm, .slice aa nA ca, .string tx] 50) = W0 := ⟨_, rfl⟩
    rw [hW0] at M0 HLA HE0 HA0
    simp only [hW0]
    have HBc := hid ((Below.refl W0.heap.size W0).drew)
    have hbc := HBc.out
    obtain ⟨k0, k1, k2, k3, _, _, _, _⟩ := box4_later M0.out
    have R0 := hid k0
    have R1 := hid k1
    have R2 := hid k2
    have R3 := hid k3
    obtain ⟨xa, xc, ⟨s1, s2, s3⟩, f1, f2, f3⟩ := HE0.out.later HAT.out
    simp only at s1 s2 s3
    clear hW0 k0 k1 k2 k3 q0 q1 q2 q3
    go_region_held3 (fun w' => w'.cell? ⟨wr.heap.size, 0, none⟩ = some (.int .i64 K) ∧ w'.cell? ⟨wr.heap.size, 1, none⟩ = some (.string nm) ∧ w'.cell? ⟨wr.heap.size, 2, none⟩ = some (.slice aa nA ca) ∧ w'.cell? ⟨wr.heap.size, 3, none⟩ = some (.string tx)) (first | with_reducible exact ⟨R0.out _ HBc.out, R1.out _ HBc.out, R2.out _ HBc.out, R3.out _ HBc.out⟩ | with_reducible exact ⟨(set1_far hne).trans (R0.out _ HBc.out), (set1_far hne).trans (R1.out _ HBc.out), (set1_far hne).trans (R2.out _ HBc.out), (set1_far hne).trans (R3.out _ HBc.out)⟩ | with_reducible exact ⟨(set2_far hne).trans (R0.out _ HBc.out), (set2_far hne).trans (R1.out _ HBc.out), (set2_far hne).trans (R2.out _ HBc.out), (set2_far hne).trans (R3.out _ HBc.out)⟩ | with_reducible exact ⟨(set3_far hne).trans (R0.out _ HBc.out), (set3_far hne).trans (R1.out _ HBc.out), (set3_far hne).trans (R2.out _ HBc.out), (set3_far hne).trans (R3.out _ HBc.out)⟩)
      (first
        | (go_at_call 71; refine (CX.out _).mono ?_; rintro e w1 ⟨rfl, hb1⟩; replace HBc := hid (bb HBc.out hb1); have hbc := HBc.out; clear hb1)
        | (go_at_call 71; refine (CY.out _).mono ?_; rintro e w1 ⟨rfl, hb1⟩; replace HA1 := hid (HA1.out.below hb1); replace HBc := hid (bb HBc.out hb1); have hbc := HBc.out; clear hb1)
        | (go_at_call 72; refine (CA.out _ (HA0.out.below HBc.out)).mono ?_; rintro e w1 ⟨a1, cc1, rfl, ha1, hb1⟩; have HA1 := hid (ha1.mono HBc.out.size); replace HBc := hid (bb HBc.out hb1); have hbc := HBc.out; clear hb1 ha1))
    rename_i hHeld
    obtain ⟨c0, _⟩ := hHeld
    obtain ⟨es', hes'⟩ := HES.out.step HAT.out (bb HLA.out HBc.out) (nA := nA) (c1 := cc1) (a1 := a1) HNA.out (own_lift HA1.out HLA.out.size)
    simp only at hes'
    have HMV := hid hes'
    clear hes' s1 s2 s3 f1 f2 f3 R0 R1 R2 R3 HA1 HBc hbc HA0 HE0 HLA M0 CX CY CA HAR
    generalize (((_ : World).setCell ⟨w.heap.size, i * 4 + 1, none⟩ (.string nm)).setCell ⟨w.heap.size, i * 4 + 2, none⟩ (.slice a1 nA cc1)).setCell ⟨w.heap.size, i * 4 + 3, none⟩ (.string tx) = W at *
    obtain ⟨⟨d0, _, _, _⟩, d4⟩ := HMV.out.cells HAT.out
    have d5 := d4 (i * 4)
    clear d4
    by_cases hk : k ≤ K
    · obtain ⟨y1, y2⟩ := HKT.out hk
      have HNX := hid (HSET.out (shK (K + b) ⟨K, nm, l, tx⟩) (by unfold mvT; rw [if_pos hk]))
      have HFN := hid (HMV.out.kind HAT.out (K + b))
      rw [HNX.out] at HFN
      clear HNX HMV HSET HSAME HKT
      go_wp2_with fail
      go_roundw
      case rel => exact ⟨i + 1, by go_num, by omega, by rw [HM'.out]; exact HFN.out⟩
      case measure => simp [intOf]; omega
    · have HNX := hid (HSAME.out (by unfold mvT; rw [if_neg hk]))
      rw [HNX.out] at HMV
      clear HNX HSET HSAME HKT
      go_wp2_with fail
      go_roundw
      case rel => exact ⟨i + 1, by go_num, by omega, by rw [HM'.out]; exact ⟨_, HMV.out⟩⟩
      case measure => simp [intOf]; omega

end Go.Proofs.Ytkejmifkjgpdjaa

namespace Go.Proofs.Ytkejmifkjgpdjaa
open Go.RowKit
set_option linter.unusedVariables false
set_option linter.unusedSimpArgs false

set_option maxHeartbeats 2000000 in
theorem cGrow0 (w : World) : Calls Try.prog 99 #[.slice none 0 0, .int .i64 0] w fun e w' => e = .returned (.slice none 0 0) ∧ w' = w := by
  go_enter Try.func99, Try.ntmps99
  go_wp2
  go_ret
  exact ⟨rfl, rfl⟩

set_option maxHeartbeats 4000000 in
theorem cGrowN (w : World) (n : Nat) (h0 : 0 < n) (hn : n ≤ 1048576) : Calls Try.prog 99 #[.slice none 0 0, .int .i64 (n : Int)] w fun e w' =>
    ∃ G, e = .returned (.slice (some ⟨w.heap.size, 0, none⟩) 0 G) ∧ w'.ownsRow w.heap.size 50 4 (.slice (some ⟨w.heap.size, 0, none⟩) 0 G) 0 [] ∧ Below w.heap.size w w' := by
  obtain ⟨i0, hi, hz0, hz1, hz2⟩ := info_parts Nd.infoR
  have hold : (Builtin.firstCells i0.size 0 (.slice none 0 0)).run Try.prog w.drew = .ok ([] : List Value).toArray w.drew := run_firstCells_none w.drew i0.size 0 0 0
  have hrz : ∀ ty, (Builtin.append_ #[26, 3] ty #[.slice none 0 0, .int .i64 (n : Int)]).run Try.prog w = _ := fun ty =>
    Lib.run_append_grow_zeros w 26 3 ty 50 i0 _ .i64 .i64 Try.underlying26 Try.underlying3 hi hz0 none 0 0 [] hold n h0 (by rw [hz1]; decide) (by omega) (by omega) (by rw [hz2]; omega) (growslice_fits (by omega) (by rw [hz2]; omega))
  have hGn := grownCap_ge w (0 + n) 0 50
  have hGm := grownCap_le_maxLen w (0 + n) 0 50 (by unfold maxLen; omega)
  obtain ⟨G, hG⟩ : ∃ G, G = grownCap w (0 + n) 0 50 := ⟨_, rfl⟩
  rw [← hG] at hGn hGm
  simp only [← hG] at hrz
  obtain ⟨cur, hcur⟩ : ∃ cur, cur = (([] : List Value).toArray ++ Builtin.zeroCells (Value.cells (.agg #[.int .i64 0, .string ⟨#[]⟩, .slice none 0 0, .string ⟨#[]⟩])) n ++ Builtin.zeroCells (Value.cells (.agg #[.int .i64 0, .string ⟨#[]⟩, .slice none 0 0, .string ⟨#[]⟩])) (G - (0 + n))) := ⟨_, rfl⟩
  have hsz : cur.size = G * 4 := by
    rw [hcur, Array.size_append, Array.size_append, size_zeroCells, size_zeroCells]
    show 0 + n * 4 + (G - (0 + n)) * 4 = G * 4
    omega
  obtain ⟨w1, hw1⟩ : ∃ w1, w1 = w.drew.alloc (.cells cur 50) := ⟨_, rfl⟩
  have HB := hid (show Below w.heap.size w w1 by rw [hw1]; exact (Below.refl w.heap.size w).drew.alloc (Nat.le_refl _) _)
  have HH := hid (show w1.heap[w.heap.size]? = some (.cells cur 50 (0, 0)) by rw [hw1]; exact heap_alloc_new w.drew _)
  simp only [← hcur, ← hw1] at hrz
  simp only [Nat.zero_add] at hrz
  have HSZ := hid hsz
  have HGM := hid hGm
  have hG63 : G ≤ 9223372036854775807 := by unfold maxLen at hGm; omega
  have h1 : ¬ ((n : Int) < 0) := by omega
  have h4 : (n : Int) > 0 := by omega
  clear hcur hsz hGm hG hold hi hz0 hz1 hz2 hw1
  go_enter Try.func99, Try.ntmps99
  go_wp2_with (at_builtin; refine Lib.wpList_append_run _ rfl _ _ _ _ rfl _ _ rfl rfl _ _ (hrz _) ?_)
  go_ret
  exact ⟨G, rfl, ⟨rfl, .inr ⟨w.heap.size, G, cur, rfl, Nat.le_refl _, HH.out, Nat.zero_le _, HGM.out, HSZ.out, by simp⟩⟩, HB.out⟩

theorem cGrow (w : World) (n : Nat) (hn : n ≤ 1048576) : Calls Try.prog 99 #[.slice none 0 0, .int .i64 (n : Int)] w fun e w' => ∃ v, e = .returned v ∧ w'.ownsRow w.heap.size 50 4 v 0 [] ∧ Below w.heap.size w w' := by
  rcases Nat.eq_zero_or_pos n with h | h
  · subst h
    refine (cGrow0 w).mono ?_
    rintro e w' ⟨rfl, rfl⟩
    exact ⟨_, rfl, World.ownsRow_nil _ _ _ _, Below.refl _ _⟩
  · refine (cGrowN w n h hn).mono ?_
    rintro e w' ⟨G, rfl, h1, h2⟩
    exact ⟨_, rfl, h1, h2⟩

/-- A row of nodes that is put behind others. -/
structure Rw where
  a : Option Addr
  c : Nat
  es : List Nd.E

def Rw.v (r : Rw) : Value := .slice r.a r.es.length r.c

def flatR (rs : List Rw) : List Nd.E := rs.flatMap (·.es)

theorem flatR_snoc {rs : List Rw} {i : Nat} (h : i < rs.length) : flatR (rs.take (i + 1)) = flatR (rs.take i) ++ rs[i].es := by
  unfold flatR
  rw [take_snocN h, List.flatMap_append]
  simp

theorem flatR_le (rs : List Rw) (i : Nat) : (flatR (rs.take i)).length ≤ (flatR rs).length := by
  have h : flatR rs = flatR (rs.take i) ++ flatR (rs.drop i) := by unfold flatR; rw [← List.flatMap_append, List.take_append_drop]
  rw [h, List.length_append]
  omega

/-- Each a row of one's own, no two share. -/
structure RowsIn (w : World) (B : Nat) (rs : List Rw) : Prop where
  row : ∀ r ∈ rs, Nd.Row w B r.v r.es
  ap : ∀ i j (hi : i < rs.length) (hj : j < rs.length), i < j → ∀ e ∈ rs[i].es, ∀ f ∈ rs[j].es, Nd.Apart e f

theorem mem_flatR {rs : List Rw} {i : Nat} (hi : i ≤ rs.length) {e : Nd.E} (h : e ∈ flatR (rs.take i)) : ∃ j, ∃ hj : j < rs.length, j < i ∧ e ∈ rs[j].es := by
  obtain ⟨r, hr, he⟩ := List.mem_flatMap.1 h
  obtain ⟨j, hj, rfl⟩ := List.getElem_of_mem hr
  rw [List.length_take] at hj
  refine ⟨j, by omega, by omega, ?_⟩
  rw [List.getElem_take] at he
  exact he

/-- The first i of these, put together. -/
structure CatR (w wr : World) (B : Nat) (v : Value) (es : List Nd.E) : Prop where
  row : Nd.Row wr B v es
  bel : Below w.heap.size w wr
  new : ∀ k, v.ownBlock = some k → w.heap.size ≤ k

/-- append of one row of one's own to another. -/
theorem wpL_add (W : World) {ops : Array Oper} {rest : List Oper} {o : Oper} {a : Act} {Q : Exit → Act → World → Prop} (hgd : o.guard = none) (s x : Operand)
    (ho : o.op = .call { callee := .builtin .append, args := #[s, x], argTypes := #[26, 26] }) (B N : Nat) (v v2 : Value) (es fs : List Nd.E) (hs : a.eval s = v) (hx : a.eval x = v2) (h1 : Nd.Row W B v es) (h2 : Nd.Row W B v2 fs)
    (hap : ∀ e ∈ es, ∀ f ∈ fs, Nd.Apart e f) (hN : N ≤ W.heap.size) (hBN : B ≤ N) (hv : ∀ k, v.ownBlock = some k → N ≤ k) (hf : ∀ f ∈ fs, ∀ g o, 0 < f.t.attrs.length → f.a = some ⟨g, o, none⟩ → g < N) (hn : es.length + fs.length ≤ 2097152)
    (h : ∀ v' w', Nd.Row w' B v' (es ++ fs) → Below N W w' → (∀ k, v'.ownBlock = some k → N ≤ k) → wpList Try.prog ops Q rest (a.put o.dst v') w') : wpList Try.prog ops Q (o :: rest) a W := by
  obtain ⟨i0, hi, hz0, hz1, hz2⟩ := info_parts Nd.infoR
  obtain ⟨a2, c2, hv2⟩ := h2.slice
  subst hv2
  obtain ⟨a1, c1, hv1⟩ := h1.slice
  by_cases h0 : fs = []
  · subst h0
    rw [List.append_nil] at h
    refine wpL_none _ hgd s x 26 50 i0 ho Try.underlying26 hi a1 es.length c1 (hs.trans hv1) ?_ a2 c2 hx (by rw [← hv1]; exact h _ _ h1 (Below.refl _ _) hv)
    rw [hv1] at h1
    rcases h1.own.2 with ⟨e, _⟩ | ⟨g, cap, cur, e, _, _, hc, _⟩
    · injection e with e1 e2 e3
      rw [e2]
      exact Nat.zero_le _
    · injection e with e1 e2 e3
      rw [e3]
      exact hc
  · obtain ⟨g, e, _, hcs⟩ := h2.cells h0
    subst e
    refine wpList_append_own_at W hgd s x 26 ho B 50 i0 _ 4 64 Try.underlying26 hi hz0 hz1 hz2 rfl (by decide) v es.length (Nd.cs es) hs h1.own ⟨g, 0, none⟩ fs.length c2 (Nd.cs fs) hx (Nd.cs_len fs) hcs (Nd.cs_cell fs) (by unfold maxLen; omega) (by omega) (by omega) ?_
    intro v' w' ho' hg' _ hw'
    have hr := h1.join (fun f hf' => ⟨(h2.ats f hf').1, fun g' o' hl e1 e2 => by have := hf f hf' g' o' hl e1; have := hv g' e2; omega⟩) h2.apart hap ho' hg' hw'
    refine h v' w' hr ((Below.refl N W).grown hg' hN hv) (fun k e => ?_)
    rcases hw' with e1 | e1
    · exact hv k (e1.symm.trans e)
    · rw [e1] at e
      cases e
      exact hN

def sumR (rs : List Rw) : Nat := (flatR rs).length

set_option maxRecDepth 8000 in
set_option maxHeartbeats 8000000 in
theorem cConcat (B b : Nat) (rs : List Rw) (w : World) (hB : B ≤ w.heap.size) (hb : w.heap[b]? = some (.cells (rs.map Rw.v).toArray 26 (0, 0))) (hr : RowsIn w B rs) (hm : rs.length ≤ 100) (hn : (flatR rs).length ≤ 1048576) :
    Calls Try.prog 89 #[.slice (some ⟨b, 0, none⟩) rs.length rs.length] w fun e w' => ∃ v, e = .returned v ∧ Nd.Row w' B v (flatR rs) ∧ Below w.heap.size w w' := by
  have HRS := hid hr
  have HBL := hid hb
  have HCE := hid (show ∀ i (hi : i < rs.length) (W : World), Below w.heap.size w W → W.cell? ⟨b, i, none⟩ = some (.slice rs[i].a rs[i].es.length rs[i].c) from fun i hi W hbw => by
    rw [Lib.cell_of_heap (blk_below hb hbw)]
    simp [hi, Rw.v])
  have HTK := hid (fun i => flatR_le rs i)
  have HSN := hid (fun i (h : i < rs.length) => flatR_snoc h)
  obtain ⟨m, hmm⟩ : ∃ m, rs.length = m := ⟨_, rfl⟩
  have HM := hid hmm
  obtain ⟨S, hS⟩ : ∃ S, (flatR rs).length = S := ⟨_, rfl⟩
  have HS := hid hS
  rw [hmm] at hm ⊢
  rw [hS] at hn
  clear hr hb hmm hS
  go_enter Try.func89, Try.ntmps89
  go_wp2_with fail
  go_loop [3, 11] (fun v x => ∃ i : Nat, x = .int .i64 (i : Int) ∧ i ≤ m ∧ v = .int .i64 ((flatR (rs.take i)).length : Int)) (fun _ x => m - (intOf x).toNat)
  case atStart => exact ⟨0, rfl, Nat.zero_le _, rfl⟩
  case round =>
    obtain ⟨i, rfl, hi, rfl⟩ := hrel
    by_cases hlt : i < m
    · have his : i < rs.length := by rw [HM.out]; exact hlt
      have hin : (i : Int) < (m : Int) := by omega
      have c := HCE.out i his w (Below.refl _ _)
      have hsn := congrArg List.length (HSN.out i his)
      rw [List.length_append] at hsn
      have hle := HTK.out (i + 1)
      rw [HS.out] at hle
      have HR := hid hsn
      obtain ⟨F', hF'⟩ : ∃ F, (flatR (rs.take (i + 1))).length = F := ⟨_, rfl⟩
      rw [hF'] at hsn hle
      have HF' := hid hF'
      clear hF' HR
      generalize (flatR (rs.take i)).length = F at *
      generalize rs[i].es.length = E at *
      generalize rs[i].a = ra at *
      generalize rs[i].c = rc at *
      have HSNN := hid hsn
      have hFE : F + E ≤ 1048576 := by omega
      clear hsn hle
      go_wp2_with fail
      go_round
      case rel => exact ⟨i + 1, by go_num, by omega, by rw [HF'.out, HSNN.out]; go_num⟩
      case measure => simp [intOf]; omega
    · have hie : m = i := by omega
      subst hie
      rw [List.take_of_length_le (by rw [HM.out]; exact Nat.le_refl _), HS.out]
      have CG := hid (cGrow w S hn)
      go_wp2_with fail
      refine CG.out.mono ?_
      rintro e w1 ⟨v1, rfl, ho1, hb1⟩
      have HX := hid (show CatR w w1 B v1 (flatR (rs.take 0)) from ⟨⟨⟨rfl, by
        rcases ho1.2 with h' | ⟨g, cap, cur, h1, h2, h3⟩
        · exact .inl h'
        · exact .inr ⟨g, cap, cur, h1, Nat.le_trans hB h2, h3⟩⟩, fun e he => absurd he List.not_mem_nil, List.Pairwise.nil⟩, hb1, fun k e => (ho1.lt k e).1⟩)
      clear ho1 hb1 CG
      go_wp2_with fail
      go_loopw [6, 27] (fun v x wr => ∃ i : Nat, x = .int .i64 (i : Int) ∧ i ≤ m ∧ Hid (CatR w wr B v (flatR (rs.take i)))) (fun _ x _ => m - (intOf x).toNat)
      case atStart => exact ⟨0, rfl, Nat.zero_le _, HX.out⟩
      case round =>
        clear HX
        obtain ⟨i, rfl, hi2, HX⟩ := hrel
        by_cases hlt2 : i < m
        · have his : i < rs.length := by rw [HM.out]; exact hlt2
          have hin : (i : Int) < (m : Int) := by omega
          have c := HCE.out i his wr HX.out.bel
          have HR2 := hid (HRS.out.row rs[i] (List.getElem_mem his))
          have HN2 := hid (HSN.out i his)
          have HL2 := hid (show (flatR (rs.take i)).length + rs[i].es.length ≤ 2097152 by
            have h1 := HTK.out (i + 1)
            rw [HS.out, HN2.out, List.length_append] at h1
            omega)
          have HAP := hid (show ∀ e ∈ flatR (rs.take i), ∀ f ∈ rs[i].es, Nd.Apart e f from fun e he f hf => by
            obtain ⟨j, hj, hji, hej⟩ := mem_flatR (by omega) he
            exact HRS.out.ap j i hj his hji e hej f hf)
          have HAL := hid (show ∀ f ∈ rs[i].es, ∀ g o, 0 < f.t.attrs.length → f.a = some ⟨g, o, none⟩ → g < w.heap.size from fun f hf g o hl e => by
            obtain ⟨g1, o1, cu, k1, _, k3, _⟩ := (HR2.out.ats f hf).1 hl
            rw [e] at k1
            cases k1
            exact lt_of_heap k3)
          go_wp2_with (at_builtin; refine wpL_add _ rfl _ _ rfl B w.heap.size _ (.slice rs[i].a rs[i].es.length rs[i].c) (flatR (rs.take i)) rs[i].es rfl rfl HX.out.row (HR2.out.below HX.out.bel) HAP.out HX.out.bel.size hB HX.out.new HAL.out HL2.out ?_)
          intro v2 w2 hr2 hb2 hn2
          have HX2 := hid (show CatR w w2 B v2 (flatR (rs.take (i + 1))) from ⟨by rw [HN2.out]; exact hr2, HX.out.bel.trans hb2, hn2⟩)
          clear hr2 hb2 hn2 c
          go_wp2_with fail
          go_roundw
          case rel => exact ⟨i + 1, by go_num, by omega, HX2.out⟩
          case measure => simp [intOf]; omega
        · have hie2 : i = m := by omega
          have HY := hid (show CatR w wr B u6 (flatR rs) by
            have h := HX.out
            rw [List.take_of_length_le (by rw [HM.out, hie2]; exact Nat.le_refl _)] at h
            exact h)
          have hni : ¬ (i : Int) < (m : Int) := by omega
          clear HX hie2
          go_wp2_with fail
          go_ret
          exact ⟨_, rfl, HY.out.row, HY.out.bel⟩

end Go.Proofs.Ytkejmifkjgpdjaa
