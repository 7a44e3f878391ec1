/-  -/
import Derived.Test.YtlpbbkaelbafdaaGreatDoorM9
import Derived.Test.YtlpbbkaelbafdaaGreatDoorM7
import Derived.OwnWalk
import Derived.Deep.QuietTactic
import Derived.BigQuiet
set_option linter.unusedVariables false
set_option linter.unusedSimpArgs false
namespace Go.Proofs.YtlpbbkaelbafdaaGreatDoor.Nd
open Go.RowKit

theorem infoR : (Tryz.prog.info? 42).map (fun i => (i.zero, i.size, i.bytes)) = some (some (.agg #[.int .i64 0, .string ⟨#[]⟩, .slice none 0 0, .string ⟨#[]⟩]), 4, 64) := by kernel_rfl

structure E where
 t : Tk
 a : Option Addr
 cap : Nat

def c1 (e : E) : List Value := [.int .i64 e.t.kind, .string e.t.name, .slice e.a e.t.attrs.length e.cap, .string e.t.text]

def cs (es : List E) : List Value := es.flatMap c1

theorem cs_app (es fs : List E) : cs (es ++ fs) = cs es ++ cs fs := by unfold cs; rw [List.flatMap_append]

theorem cs_one (e : E) : cs [e] = c1 e := by simp [cs]

theorem cs_len (es : List E) : (cs es).length = es.length * 4 := by
 induction es with
 | nil => rfl
 | cons x es ih => show (cs es).length + 4 = _; rw [ih, List.length_cons]; omega

theorem cs_cell (es : List E) : ∀ u ∈ cs es, u.oneCell' = true := by
 intro u hu
 unfold cs at hu
 obtain ⟨e, _, he⟩ := List.mem_flatMap.1 hu
 simp [c1] at he
 rcases he with rfl | rfl | rfl | rfl <;> rfl

theorem cs_get (es : List E) (j : Nat) (h : j < es.length) : (cs es)[j * 4]? = some (.int .i64 es[j].t.kind) /\ (cs es)[j * 4 + 1]? = some (.string es[j].t.name)
  /\ (cs es)[j * 4 + 2]? = some (.slice es[j].a es[j].t.attrs.length es[j].cap) /\ (cs es)[j * 4 + 3]? = some (.string es[j].t.text) := by
 induction es generalizing j with
 | nil => simp at h
 | cons x es ih =>
  have e : cs (x :: es) = .int .i64 x.t.kind :: .string x.t.name :: .slice x.a x.t.attrs.length x.cap :: .string x.t.text :: cs es := rfl
  rw [e]
  match j with
  | 0 => exact ⟨rfl, rfl, rfl, rfl⟩
  | j + 1 =>
   have := ih j (by simpa using h)
   rw [show (j + 1) * 4 = j * 4 + 1 + 1 + 1 + 1 by omega]
   exact this

def Apart (e f : E) : Prop := 0 < e.t.attrs.length -> 0 < f.t.attrs.length -> ∀ g o g' o', e.a = some ⟨g, o, none⟩ -> f.a = some ⟨g', o', none⟩ -> ¬ g = g'

structure Row (w : World) (B : Nat) (v : Value) (es : List E) : Prop where
 own : w.ownsRow B 42 4 v es.length (cs es)
 ats : ∀ e ∈ es, OwnAts w B e.a e.t.attrs /\ ∀ g o, 0 < e.t.attrs.length -> e.a = some ⟨g, o, none⟩ -> ¬ v.ownBlock = some g
 apart : es.Pairwise Apart

theorem Row.below {w w' : World} {B : Nat} {v : Value} {es : List E} (h : Row w B v es) (hb : Below w.heap.size w w') : Row w' B v es :=
 ⟨ownsRow_below h.own hb, fun e he => ⟨(h.ats e he).1.below hb, (h.ats e he).2⟩, h.apart⟩

theorem Row.mono {w : World} {B B' : Nat} {v : Value} {es : List E} (h : Row w B' v es) (hB : B <= B') : Row w B v es := by
 refine ⟨⟨h.own.1, ?_⟩, fun e he => ⟨fun hl => ?_, (h.ats e he).2⟩, h.apart⟩
 ·rcases h.own.2 with h' | ⟨g, cap, cur, h1, h2, h3⟩
  ·exact .inl h'
  ·exact .inr ⟨g, cap, cur, h1, Nat.le_trans hB h2, h3⟩
 ·obtain ⟨g, o, cu, e1, e2, e3⟩ := (h.ats e he).1 hl
  exact ⟨g, o, cu, e1, Nat.le_trans hB e2, e3⟩

theorem Row.start (w : World) (B g : Nat) (hB : B <= g) (hh : w.heap[g]? = some (.cells #[] 42 (0, 0))) : Row w B (.slice (some ⟨g, 0, none⟩) 0 0) [] :=
 ⟨⟨rfl, .inr ⟨g, 0, #[], rfl, hB, hh, Nat.le_refl _, Nat.zero_le _, rfl, rfl⟩⟩, fun e he => absurd he List.not_mem_nil, List.Pairwise.nil⟩

theorem Row.start0 (w : World) (B : Nat) : Row w B (.slice none 0 0) [] :=
 ⟨World.ownsRow_nil _ _ _ _, fun e he => absurd he List.not_mem_nil, List.Pairwise.nil⟩

theorem Row.one {w : World} {B g : Nat} {e : E} (hB : B <= g) (hh : w.heap[g]? = some (.cells #[.int .i64 e.t.kind, .string e.t.name, .slice e.a e.t.attrs.length e.cap, .string e.t.text] 42 (0, 0))) (ha : OwnAts w B e.a e.t.attrs) (hne : ∀ g' o, 0 < e.t.attrs.length -> e.a = some ⟨g', o, none⟩ -> ¬ g' = g) :
  Row w B (.slice (some ⟨g, 0, none⟩) 1 1) [e] :=
 ⟨⟨rfl, .inr ⟨g, 1, _, rfl, hB, hh, Nat.le_refl _, by decide, rfl, rfl⟩⟩, fun x hx => by
  rw [List.mem_singleton] at hx
  subst hx
  exact ⟨ha, fun g' o hl e1 e2 => hne g' o hl e1 (by simp [Value.ownBlock] at e2; exact e2.symm)⟩, List.pairwise_singleton _ _⟩

theorem Row.slice {w : World} {B : Nat} {v : Value} {es : List E} (h : Row w B v es) : ∃ a c, v = .slice a es.length c := by
 rcases h.own.2 with ⟨rfl, h0⟩ | ⟨g, cap, _, rfl, _⟩
 ·exact ⟨none, 0, by rw [h0]⟩
 ·exact ⟨_, cap, rfl⟩

theorem Row.tkRow {w : World} {B : Nat} {v : Value} {es : List E} (h : Row w B v es) : ∃ a cap, v = .slice a es.length cap /\ TkRow w a (es.map (·.t)) := by
 rcases h.own.2 with ⟨rfl, h0⟩ | ⟨g, cap, cur, rfl, hg, hh, hn, hc, hs, ht⟩
 ·exact ⟨none, 0, by rw [h0], fun j hj => by rw [List.length_map] at hj; omega⟩
 ·refine ⟨some ⟨g, 0, none⟩, cap, rfl, fun j hj => ?_⟩
  rw [List.length_map] at hj
  obtain ⟨k0, k1, k2, k3⟩ := cs_get es j hj
  have hx : ∀ k u, (cs es)[k]? = some u -> w.cell? ⟨g, 0 + k, none⟩ = some u := by
   intro k u hk
   rw [Lib.cell_of_heap hh, Nat.zero_add, <- Array.getElem?_toList]
   rw [<- ht, List.getElem?_take] at hk
   split at hk
   ·exact hk
   ·cases hk
  rw [List.getElem_map]
  exact ⟨g, 0, es[j].a, es[j].cap, rfl, lt_of_heap hh, hx _ _ k0, hx _ _ k1, hx _ _ k2, hx _ _ k3, (h.ats _ (List.getElem_mem hj)).1.atRow⟩

theorem Row.join {w w' : World} {B : Nat} {v v' : Value} {es fs : List E} (h : Row w B v es)
  (hf : ∀ e ∈ fs, OwnAts w B e.a e.t.attrs /\ ∀ g o, 0 < e.t.attrs.length -> e.a = some ⟨g, o, none⟩ -> ¬ v.ownBlock = some g) (hp : fs.Pairwise Apart) (hx : ∀ e ∈ es, ∀ f ∈ fs, Apart e f)
  (ho : w'.ownsRow B 42 4 v' (es.length + fs.length) (cs es ++ cs fs)) (hgr : w.grownBy w' v.ownBlock) (hw : v'.ownBlock = v.ownBlock \/ v'.ownBlock = some w.heap.size) : Row w' B v' (es ++ fs) := by
 have key : ∀ e : E, (OwnAts w B e.a e.t.attrs /\ ∀ g o, 0 < e.t.attrs.length -> e.a = some ⟨g, o, none⟩ -> ¬ v.ownBlock = some g) -> OwnAts w' B e.a e.t.attrs /\ ∀ g o, 0 < e.t.attrs.length -> e.a = some ⟨g, o, none⟩ -> ¬ v'.ownBlock = some g := by
  rintro e ⟨h1, h2⟩
  refine ⟨fun hl => ?_, fun g o hl hg x => ?_⟩
  ·obtain ⟨g, o, cu, e1, e2, e3, e4⟩ := h1 hl
   exact ⟨g, o, cu, e1, e2, (hgr.block g (lt_of_heap e3) (fun x => h2 g o hl e1 x.symm)).trans e3, e4⟩
  ·rcases hw with hw | hw
   ·exact h2 g o hl hg (hw.symm.trans x)
   ·rw [hw] at x
    simp only [Option.some.injEq] at x
    obtain ⟨g2, o2, cu, e1, _, e3, _⟩ := h1 hl
    rw [hg] at e1
    cases e1
    have := lt_of_heap e3
    omega
 refine ⟨by rw [List.length_append, cs_app]; exact ho, fun e he => ?_, List.pairwise_append.2 ⟨h.apart, hp, hx⟩⟩
 rcases List.mem_append.1 he with h' | h'
 ·exact key e (h.ats e h')
 ·exact key e (hf e h')

theorem Row.apart_later {w w2 : World} {B B2 : Nat} {v v2 : Value} {es fs : List E} (h : Row w B v es) (k : Row w2 B2 v2 fs) (hB : w.heap.size <= B2) : (∀ e ∈ es, ∀ f ∈ fs, Apart e f) /\ ∀ f ∈ fs, ∀ g o, 0 < f.t.attrs.length -> f.a = some ⟨g, o, none⟩ -> ¬ v.ownBlock = some g := by
 refine ⟨fun e he f hf hl hl' g o g' o' e1 e2 x => ?_, fun f hf g o hl e1 x => ?_⟩
 ·subst x
  obtain ⟨g1, o1, cu, a1, _, a3, _⟩ := (h.ats e he).1 hl
  obtain ⟨g2, o2, cu2, b1, b2, _⟩ := (k.ats f hf).1 hl'
  rw [e1] at a1
  rw [e2] at b1
  cases a1
  cases b1
  have := lt_of_heap a3
  omega
 ·obtain ⟨g2, o2, cu2, b1, b2, _⟩ := (k.ats f hf).1 hl
  rw [e1] at b1
  cases b1
  have := (h.own.lt g x).2
  omega

theorem Row.cells {w : World} {B : Nat} {a : Option Addr} {n c : Nat} {es : List E} (h : Row w B (.slice a n c) es) (hne : ¬ es = []) : ∃ g, a = some ⟨g, 0, none⟩ /\ n = es.length /\ ∀ j u, (cs es)[j]? = some u -> w.cell? ((⟨g, 0, none⟩ : Addr).add j) = some u := by
 rcases h.own.2 with ⟨_, h0⟩ | ⟨g, cap, cur, e, hg, hh, hn, hc, hs, ht⟩
 ·exact absurd (List.eq_nil_of_length_eq_zero h0) hne
 ·cases e
  refine ⟨g, rfl, rfl, fun j u hk => ?_⟩
  rw [add_plainW, Lib.cell_of_heap hh, Nat.zero_add, <- Array.getElem?_toList]
  rw [<- ht, List.getElem?_take] at hk
  split at hk
  ·exact hk
  ·cases hk

theorem wpL_join (w : World) {ops : Array Oper} {rest : List Oper} {o : Oper} {a : Act} {Q : Exit -> Act -> World -> Prop} (hgd : o.guard = none) (s x : Operand)
  (ho : o.op = .call { callee := .builtin .append, args := #[s, x], argTypes := #[28, 28] }) (base : Nat) (v : Value) (es fs : List E) (hs : a.eval s = v) (hown : Row w base v es)
  (g m c : Nat) (hx : a.eval x = .slice (some ⟨g, 0, none⟩) m c) (hm : m = fs.length) (hB : ∀ j u, (cs fs)[j]? = some u -> w.cell? ((⟨g, 0, none⟩ : Addr).add j) = some u)
  (hf : ∀ e ∈ fs, OwnAts w base e.a e.t.attrs /\ ∀ g o, 0 < e.t.attrs.length -> e.a = some ⟨g, o, none⟩ -> ¬ v.ownBlock = some g) (hp : fs.Pairwise Apart) (hap : ∀ e ∈ es, ∀ f ∈ fs, Apart e f) (hn : es.length + fs.length <= 2097152) (hb : base <= w.heap.size)
  (h : ∀ a' c' w', Row w' base (.slice a' (es ++ fs).length c') (es ++ fs) -> Below base w w' -> w.grownBy w' v.ownBlock -> wpList Tryz.prog ops Q rest (a.put o.dst (.slice a' (es ++ fs).length c')) w') : wpList Tryz.prog ops Q (o :: rest) a w := by
 subst hm
 obtain ⟨i0, hi, hz0, hz1, hz2⟩ := info_parts infoR
 refine wpList_append_own_at w hgd s x 28 ho base 42 i0 _ 4 64 Tryz.underlying28 hi hz0 hz1 hz2 rfl (by decide) v es.length (cs es) hs hown.own ⟨g, 0, none⟩ fs.length c (cs fs) hx (cs_len fs) hB (cs_cell fs) (by unfold maxLen; omega) (by omega) hb ?_
 intro v' w' ho' hg' _ hw'
 have hr := hown.join hf hp hap ho' hg' hw'
 obtain ⟨a', c', hv'⟩ := hr.slice
 subst hv'
 exact h a' c' w' hr ((Below.refl base w).grown hg' hb (fun k e => (hown.own.lt k e).1)) hg'

theorem step_join {ops : Array Oper} {o : Oper} {a : Act} {w : World} {K : Act -> World -> Prop} {Q : Exit -> Act -> World -> Prop} {F : Prop} (hgd : o.guard = none) (s x : Operand)
  (ho : o.op = .call { callee := .builtin .append, args := #[s, x], argTypes := #[28, 28] }) (base : Nat) (v : Value) (es fs : List E) (hs : a.eval s = v) (hown : Row w base v es)
  (g m c : Nat) (hx : a.eval x = .slice (some ⟨g, 0, none⟩) m c) (hm : m = fs.length) (hB : ∀ j u, (cs fs)[j]? = some u -> w.cell? ((⟨g, 0, none⟩ : Addr).add j) = some u)
  (hf : ∀ e ∈ fs, OwnAts w base e.a e.t.attrs /\ ∀ g o, 0 < e.t.attrs.length -> e.a = some ⟨g, o, none⟩ -> ¬ v.ownBlock = some g) (hp : fs.Pairwise Apart) (hap : ∀ e ∈ es, ∀ f ∈ fs, Apart e f) (hn : es.length + fs.length <= 2097152) (hb : base <= w.heap.size)
  (h : ∀ a' c' w', Row w' base (.slice a' (es ++ fs).length c') (es ++ fs) -> Below base w w' -> w.grownBy w' v.ownBlock -> K (a.put o.dst (.slice a' (es ++ fs).length c')) w') :
  if Region.wanted o (yielded ops a.tmps) = true then Oper.wp Tryz.prog o a w K Q else F := by
 have hw : Region.wanted o (yielded ops a.tmps) = true := by simp [Region.wanted, hgd]
 rw [if_pos hw]
 subst hm
 obtain ⟨i0, hi, hz0, hz1, hz2⟩ := info_parts infoR
 obtain ⟨v', w', hr, ho', hg', _, hw'⟩ := run_append_own_at (P := Tryz.prog) w base 28 o.type 42 i0 _ 4 64 Tryz.underlying28 hi hz0 hz1 hz2 rfl (by decide) v es.length (cs es) hown.own ⟨g, 0, none⟩ fs.length c (cs fs) (cs_len fs) hB (cs_cell fs) (by unfold maxLen; omega) (by omega) hb
 have hrow := hown.join hf hp hap ho' hg' hw'
 obtain ⟨a', c', hv'⟩ := hrow.slice
 subst hv'
 unfold Oper.wp execOp
 simp only [ho, resolve, invoke, builtin, Sem.run_bind, Sem.run_pure, Result.andThen_ok, List.map_toArray, List.map_cons, List.map_nil, hs, hx, hr]
 exact h a' c' w' hrow ((Below.refl base w).grown hg' hb (fun k e => (hown.own.lt k e).1)) hg'

end Go.Proofs.YtlpbbkaelbafdaaGreatDoor.Nd

namespace Go.Proofs.YtlpbbkaelbafdaaGreatDoor
open Go.RowKit

theorem stopG {p : Prop} (h : Hid p) : p := h

theorem own_setG {w : World} {B : Nat} {a : Option Addr} {l : List At} (h : OwnAts w B a l) {p : Addr} (hp : p.block < B) (u : Value) : OwnAts (w.setCell p u) B a l := fun hl => by
 obtain ⟨g, o, cu, e1, e2, e3, e4⟩ := h hl
 refine ⟨g, o, cu, e1, e2, ?_, e4⟩
 rw [Below.heap_setCell _ _ _ _ (by omega)]
 exact e3

theorem own_lift {w : World} {B B' : Nat} {a : Option Addr} {l : List At} (h : OwnAts w B' a l) (hB : B <= B') : OwnAts w B a l := fun hl => by
 obtain ⟨g, o, cu, e1, e2, e3⟩ := h hl
 exact ⟨g, o, cu, e1, Nat.le_trans hB e2, e3⟩

theorem box_set {w : World} {g : Nat} {cur : Array Value} {T : TypeId} (h : w.heap[g]? = some (.cells cur T (0, 0))) (j : Nat) (v : Value) : (w.setCell ⟨g, j, none⟩ v).heap[g]? = some (.cells (cur.setIfInBounds j v) T (0, 0)) := heap_setCell_same w g j cur T v h

theorem node_cells {w : World} {g : Nat} {t : Tk} {a1 : Option Addr} {c1 : Nat} (h : w.heap[g]? = some (.cells #[.int .i64 t.kind, .string t.name, .slice a1 t.attrs.length c1, .string t.text] 42 (0, 0))) :
  ∀ j u, (Nd.cs [⟨t, a1, c1⟩])[j]? = some u -> w.cell? ((⟨g, 0, none⟩ : Addr).add j) = some u := by
 intro j u hj
 rw [add_plainW, Nat.zero_add, Lib.cell_of_heap h]
 rw [Nd.cs_one] at hj
 match j, hj with
 | 0, hj => exact hj
 | 1, hj => exact hj
 | 2, hj => exact hj
 | 3, hj => exact hj

theorem wpL_node (W : World) {ops : Array Oper} {rest : List Oper} {o : Oper} {a : Act} {Q : Exit -> Act -> World -> Prop} (hgd : o.guard = none) (s x : Operand)
  (ho : o.op = .call { callee := .builtin .append, args := #[s, x], argTypes := #[28, 28] }) (base : Nat) (v : Value) (es : List Nd.E) (hs : a.eval s = v) (wr : World) (hrow : Nd.Row wr base v es) (hb0 : base <= wr.heap.size) (hB : Below wr.heap.size wr W)
  (t : Tk) (a1 : Option Addr) (c1 g : Nat) (hx : a.eval x = .slice (some ⟨g, 0, none⟩) 1 1) (hg : W.heap[g]? = some (.cells #[.int .i64 t.kind, .string t.name, .slice a1 t.attrs.length c1, .string t.text] 42 (0, 0))) (hA : OwnAts W wr.heap.size a1 t.attrs) (hn : es.length <= 1048576)
  (h : ∀ a' c' w', Nd.Row w' base (.slice a' (es ++ [(⟨t, a1, c1⟩ : Nd.E)]).length c') (es ++ [⟨t, a1, c1⟩]) -> Below base W w' -> wpList Tryz.prog ops Q rest (a.put o.dst (.slice a' (es ++ [(⟨t, a1, c1⟩ : Nd.E)]).length c')) w') : wpList Tryz.prog ops Q (o :: rest) a W := by
 have hbW : base <= W.heap.size := Nat.le_trans hb0 hB.size
 refine Nd.wpL_join W hgd s x ho base v es [⟨t, a1, c1⟩] hs (hrow.below hB) g 1 1 hx rfl (node_cells hg) (fun e he => ?_) (List.pairwise_singleton _ _) (fun e he f hf => ?_) (by show es.length + 1 <= _; omega) hbW (fun a' c' w' h1 h2 _ => h a' c' w' h1 h2)
 ·rw [List.mem_singleton] at he
  subst he
  refine ⟨own_lift hA hb0, fun g' o' hl e1 e2 => ?_⟩
  obtain ⟨g2, o2, cu, k1, k2, _⟩ := hA hl
  rw [k1] at e1
  cases e1
  have := (hrow.own.lt _ e2).2
  omega
 ·rw [List.mem_singleton] at hf
  subst hf
  intro hl hl' g1 o1 g2 o2 e1 e2 e3
  obtain ⟨k, ko, cu, k1, k2, _⟩ := hA hl'
  obtain ⟨m, mo, cm, m1, m2, m3, _⟩ := (hrow.ats e he).1 hl
  rw [k1] at e2
  rw [m1] at e1
  cases e1
  cases e2
  have := lt_of_heap m3
  omega

structure RowOf (w wr : World) (v : Value) (L : List Tk) : Prop where
 row : ∃ es a c, v = .slice a es.length c /\ Nd.Row wr w.heap.size (.slice a es.length c) es /\ es.map (·.t) = L
 bel : Below w.heap.size w wr

theorem RowOf.open {w wr : World} {v : Value} {L : List Tk} (h : RowOf w wr v L) : ∃ es a c, v = .slice a es.length c /\ Nd.Row wr w.heap.size (.slice a es.length c) es /\ es.map (·.t) = L /\ es.length = L.length := by
 obtain ⟨es, a, c, e1, e2, e3⟩ := h.row
 exact ⟨es, a, c, e1, e2, e3, by rw [<- e3, List.length_map]⟩

theorem RowOf.tk {w wr : World} {v : Value} {L : List Tk} (h : RowOf w wr v L) : ∃ a c, v = .slice a L.length c /\ TkRow wr a L := by
 obtain ⟨es, a, c, rfl, hr, hm, hl⟩ := h.open
 obtain ⟨a2, c2, e, ht⟩ := hr.tkRow
 cases e
 rw [hm] at ht
 exact ⟨a, c, by rw [hl], ht⟩

theorem RowOf.start {w wr : World} (hb : Below w.heap.size w wr) {g : Nat} (hg : w.heap.size <= g) (hh : wr.heap[g]? = some (.cells #[] 42 (0, 0))) : RowOf w wr (.slice (some ⟨g, 0, none⟩) 0 0) [] :=
 ⟨⟨[], _, _, rfl, Nd.Row.start _ _ _ hg hh, rfl⟩, hb⟩

theorem RowOf.below {w wr w' : World} {v : Value} {L : List Tk} (h : RowOf w wr v L) (hb : Below wr.heap.size wr w') : RowOf w w' v L := by
 obtain ⟨es, a, c, e1, e2, e3⟩ := h.row
 exact ⟨⟨es, a, c, e1, e2.below hb, e3⟩, bb h.bel hb⟩

theorem RowOf.more {w w' : World} {es : List Nd.E} {a : Option Addr} {c : Nat} {L : List Tk} {t : Tk} {a1 : Option Addr} {c1 : Nat} (hm : es.map (·.t) = L) (h : Nd.Row w' w.heap.size (.slice a (es ++ [(⟨t, a1, c1⟩ : Nd.E)]).length c) (es ++ [⟨t, a1, c1⟩])) (hb : Below w.heap.size w w') : RowOf w w' (.slice a (es ++ [(⟨t, a1, c1⟩ : Nd.E)]).length c) (L ++ [t]) :=
 ⟨⟨_, a, c, rfl, h, by rw [List.map_append, hm]; rfl⟩, hb⟩

theorem wpL_row (w wr W : World) {ops : Array Oper} {rest : List Oper} {o : Oper} {a : Act} {Q : Exit -> Act -> World -> Prop} (hgd : o.guard = none) (s x : Operand)
  (ho : o.op = .call { callee := .builtin .append, args := #[s, x], argTypes := #[28, 28] }) (v : Value) (L : List Tk) (hs : a.eval s = v) (hrow : RowOf w wr v L) (hB : Below wr.heap.size wr W)
  (t : Tk) (a1 : Option Addr) (c1 g nA : Nat) (hx : a.eval x = .slice (some ⟨g, 0, none⟩) 1 1) (hnA : t.attrs.length = nA) (hg : W.heap[g]? = some (.cells #[.int .i64 t.kind, .string t.name, .slice a1 nA c1, .string t.text] 42 (0, 0))) (hA : OwnAts W wr.heap.size a1 t.attrs) (hn : L.length <= 1048576)
  (h : ∀ v' w', RowOf w w' v' (L ++ [t]) -> wpList Tryz.prog ops Q rest (a.put o.dst v') w') : wpList Tryz.prog ops Q (o :: rest) a W := by
 obtain ⟨es, a8, c8, rfl, hr, hm, hl⟩ := hrow.open
 subst hnA
 refine wpL_node W hgd s x ho w.heap.size _ es hs wr hr hrow.bel.size hB t a1 c1 g hx hg hA (by omega) (fun a' c' w' h1 h2 => h _ w' (RowOf.more hm h1 ((hrow.bel.trans (hB.mono hrow.bel.size)).trans h2)))

set_option maxRecDepth 4000 in
set_option maxHeartbeats 4000000 in
theorem cCopyT (a : Option Addr) (cap : Nat) (ts : List Tk) (w : World) (hR : TkRow w a ts) (hn : ts.length <= 1048576) (hz : TksSz 1048576 ts) :
  Calls Tryz.prog 54 #[.slice a ts.length cap] w fun e w' => ∃ v, e = .returned v /\ RowOf w w' v ts := by
 have HR := hid hR
 have HZ := hid hz
 have HB0 := hid ((Below.refl w.heap.size w).alloc (Nat.le_refl _) (.cells #[] 42))
 have M0 := hid (heap_alloc_new w (.cells #[] 42))
 clear hR hz
 obtain ⟨n, hnn⟩ : ∃ n, ts.length = n := ⟨_, rfl⟩
 have HN := hid hnn
 rw [hnn] at hn ⊢
 clear hnn
 go_enter Tryz.func54, Tryz.ntmps54
 go_wp2_with fail
 go_loopw [3, 4] (fun v k wr => ∃ i : Nat, k = .int .i64 (i : Int) /\ i <= n /\ Hid (RowOf w wr v (ts.take i))) (fun _ k _ => n - (intOf k).toNat)
 case atStart => exact ⟨0, rfl, Nat.zero_le _, by rw [List.take_zero]; exact RowOf.start HB0.out (Nat.le_refl _) M0.out⟩
 case round =>
  clear HB0 M0
  obtain ⟨i, rfl, hi, HX⟩ := hrel
  by_cases hlt : i < n
  ·have his : i < ts.length := by rw [HN.out]; exact hlt
   have hin : (i : Int) < (n : Int) := by omega
   have HTS := hid (take_snocN his)
   have HLT := hid (show (ts.take i).length <= 1048576 by rw [List.length_take]; omega)
   have HZT := hid (HZ.out _ (List.getElem_mem his))
   obtain ⟨b, o, aa, ca, e', hb, q0, q1, q2, q3, hA⟩ := (HR.out.below HX.out.bel) i his
   subst e'
   have HAT := hid hA
   obtain ⟨t, ht⟩ : ∃ t, ts[i] = t := ⟨_, rfl⟩
   rw [ht] at q0 q1 q2 q3 HAT HZT HTS
   clear ht hA
   obtain ⟨nA, hnA⟩ : ∃ nA, t.attrs.length = nA := ⟨_, rfl⟩
   have HNA := hid hnA
   rw [hnA] at q2
   clear hnA
   have HL1 := hid ((Below.refl wr.heap.size wr).alloc (Nat.le_refl _) (.cells #[.int .i64 t.kind, .string t.name, .slice aa nA ca, .string t.text] 42))
   have M1 := hid (heap_alloc_new wr (.cells #[.int .i64 t.kind, .string t.name, .slice aa nA ca, .string t.text] 42))
   have CC := hid (fun wx (h : AtRow wx aa t.attrs) => cCopyS aa ca t.attrs wx h HZT.out.2.1)
   rw [HNA.out] at CC
   go_wp2_with fail
   refine (CC.out _ (HAT.out.below HL1.out)).mono ?_
   rintro e w2 ⟨a1, c1, rfl, ha1, hb2⟩
   have HA1 := hid (show OwnAts w2 (wr.heap.size + 1) a1 t.attrs by simpa using ha1)
   have HL2 := hid (bb HL1.out hb2)
   have M2 := hid (blk_below M1.out hb2)
   obtain ⟨⟨x0, x1, x2, x3⟩, f0, f1, f2, f3⟩ := box4 M2.out
   clear ha1 hb2 CC HL1 M1 q0 q1 q2 q3 hb
   have HS3 := hid (HL2.out.setCell (p := ⟨wr.heap.size, 2, none⟩) (Nat.le_refl _) (.slice a1 nA c1))
   have HA3 := hid (own_lift (own_setG HA1.out (p := ⟨wr.heap.size, 2, none⟩) (Nat.lt_succ_self _) (.slice a1 nA c1)) (Nat.le_succ _))
   have M3 := hid (box_set M2.out 2 (.slice a1 nA c1))
   obtain ⟨w3, hw3⟩ : ∃ w3, w2.setCell ⟨wr.heap.size, 2, none⟩ (.slice a1 nA c1) = w3 := ⟨_, rfl⟩
   rw [hw3] at HS3 HA3 M3
   obtain ⟨⟨y0, y1, y2, y3⟩, _⟩ := box4 M3.out
   have HM4 := hid (heap_alloc_new w3 (.cells #[.int .i64 t.kind, .string t.name, .slice a1 nA c1, .string t.text] 42))
   have HB4 := hid (HS3.out.alloc HS3.out.size (.cells #[.int .i64 t.kind, .string t.name, .slice a1 nA c1, .string t.text] 42))
   have HA4 := hid (HA3.out.below ((Below.refl _ _).alloc (Nat.le_refl _) (.cells #[.int .i64 t.kind, .string t.name, .slice a1 nA c1, .string t.text] 42)))
   go_wp2_with (at_builtin; refine wpL_row w wr _ rfl _ _ rfl _ (ts.take i) rfl HX.out HB4.out t a1 c1 w3.heap.size nA rfl HNA.out HM4.out HA4.out HLT.out ?_)
   intro v5 w5 hr5
   have HR5 := hid hr5
   rw [<- HTS.out] at HR5
   clear hr5 x0 x1 x2 x3 y0 y1 y2 y3 hw3
   go_wp2_with fail
   go_roundw
   case rel => exact ⟨i + 1, by go_num, by omega, HR5.out⟩
   case measure => simp [intOf]; omega
  ·have hie : i = n := by omega
   subst hie
   have HY := hid (show RowOf w wr u3 ts by
    have h := HX.out
    rw [List.take_of_length_le (by rw [HN.out]; exact Nat.le_refl _)] at h
    exact h)
   clear HX
   go_wp2_with fail
   go_ret
   exact ⟨_, rfl, HY.out⟩

end Go.Proofs.YtlpbbkaelbafdaaGreatDoor

namespace Go.Proofs.YtlpbbkaelbafdaaGreatDoor
open Go.RowKit

def kidsTo (ts : List Tk) (k e : Nat) : List Nat := (List.range e).filter fun i => decide (k < i) && decide (parI ts i = (k : Int))

def kidsN (ts : List Tk) (k : Nat) : List Nat := kidsTo ts k ts.length

theorem kidsTo_first (ts : List Tk) (k : Nat) : kidsTo ts k (k + 1) = [] := by
 unfold kidsTo
 rw [List.filter_eq_nil_iff]
 intro i hi
 have := List.mem_range.1 hi
 simp
 omega

theorem kidsTo_next {ts : List Tk} {k e : Nat} (h : k < e) : kidsTo ts k (e + 1) = kidsTo ts k e ++ (if parI ts e = (k : Int) then [e] else []) := by
 unfold kidsTo
 rw [List.range_succ, List.filter_append]
 congr 1
 by_cases q : parI ts e = (k : Int)
 ·simp [h, q]
 ·simp [q]

theorem kidsTo_len (ts : List Tk) (k e : Nat) : (kidsTo ts k e).length <= e := by
 have := List.length_filter_le (fun i => decide (k < i) && decide (parI ts i = (k : Int))) (List.range e)
 rw [List.length_range] at this
 exact this

theorem kidsN_lt {ts : List Tk} {k i : Nat} (h : i ∈ kidsN ts k) : i < ts.length := List.mem_range.1 (List.mem_filter.1 h).1

def intC (l : List Nat) : List Value := l.map fun (i : Nat) => .int .i64 (i : Int)

theorem intC_len (l : List Nat) : (intC l).length = l.length := by simp [intC]

theorem intC_app (l m : List Nat) : intC (l ++ m) = intC l ++ intC m := by simp [intC]

theorem info64 : (Tryz.prog.info? 2).map (fun i => (i.zero, i.size, i.bytes)) = some (some (.int .i64 0), 1, 8) := by kernel_rfl

theorem one_cell64 (w : World) (v : Value) : ∀ j u, [v][j]? = some u -> (w.alloc (.cells #[v] 2)).cell? ((⟨w.heap.size, 0, none⟩ : Addr).add j) = some u := by
 intro j u hj
 match j, hj with
 | 0, hj => simp at hj; subst hj; simp [Addr.add]

theorem one_one64 (n : Int) : ∀ u ∈ [Value.int .i64 n], u.oneCell' = true := by
 intro u hu; simp at hu; subst hu; rfl

set_option maxRecDepth 8000 in
set_option maxHeartbeats 4000000 in
theorem cKidsS (a : Option Addr) (cap : Nat) (ts : List Tk) (k : Nat) (w : World) (hR : TkRow w a ts) (hk : k < ts.length) (hn : ts.length <= 1048576) :
  Calls Tryz.prog 134 #[.slice a ts.length cap, .int .i64 (k : Int)] w fun e w' => ∃ v, e = .returned v /\ w'.ownsRow w.heap.size 2 1 v (kidsN ts k).length (intC (kidsN ts k)) /\ Below w.heap.size w w' := by
 have HR := hid hR
 obtain ⟨i0, hi, hz0, hz1, hz2⟩ := info_parts info64
 have HI := hid (And.intro hi (And.intro hz0 (And.intro hz1 hz2)))
 clear hi hz0 hz1 hz2 hR
 obtain ⟨V, hV⟩ : ∃ V, kidsN ts k = V := ⟨_, rfl⟩
 have HV := hid hV
 rw [hV]
 clear hV
 obtain ⟨n, hnn⟩ : ∃ n, ts.length = n := ⟨_, rfl⟩
 have HN := hid hnn
 rw [hnn] at hn hk ⊢
 clear hnn
 go_enter Tryz.func134, Tryz.ntmps134
 go_wp2
 go_loopw [5, 6] (fun v x wr => ∃ e : Nat, x = .int .i64 (e : Int) /\ k < e /\ e <= n /\ Hid (wr.ownsRow w.heap.size 2 1 v (kidsTo ts k e).length (intC (kidsTo ts k e))) /\ Hid (Below w.heap.size w wr)) (fun _ x _ => n - (intOf x).toNat)
 case atStart => exact ⟨k + 1, by go_num, by omega, by omega, by rw [kidsTo_first]; exact World.ownsRow_made _ _ _ (Nat.le_refl _) (by decide) rfl, (Below.refl _ _).alloc (Nat.le_refl _) _⟩
 case round =>
  obtain ⟨e, rfl, h1, h2, HO, HB⟩ := hrel
  by_cases hlt : e < n
  ·have hes : e < ts.length := by rw [HN.out]; exact hlt
   have hin : (e : Int) < (n : Int) := by omega
   obtain ⟨b, o, rfl, c0, _⟩ := (HR.out.below HB.out).kindAt e hes
   have HX := hid (kidsTo_next (ts := ts) h1)
   by_cases hp : parI ts e = (k : Int)
   ·rw [if_pos hp] at HX
    have hlen := kidsTo_len ts k e
    have hd : (parI ts e == (k : Int)) = true := by simpa using hp
    generalize parI ts e = P at *
    clear hp
    obtain ⟨hi, hz0, hz1, hz2⟩ := HI.out
    have hsz := HB.out.size
    have HOA := hid (HO.out.alloc (.cells #[.int .i64 (e : Int)] 2))
    have hlen2 : (intC (kidsTo ts k e)).length <= e := by rw [intC_len]; exact hlen
    go_wp2_with (at_builtin; refine wpList_append_own _ rfl _ _ 109 rfl w.heap.size 2 i0 (.int .i64 0) 1 8 Tryz.underlying109 hi hz0 hz1 hz2 rfl (by decide) _ _ _ rfl HOA.out ⟨wr.heap.size, 0, none⟩ 1 1 [.int .i64 (e : Int)] rfl rfl ?c1 ?c2 ?c3 ?c4 ?c5 ?_)
    case c1 => exact one_cell64 _ _
    case c2 => exact one_one64 _
    case c3 => unfold maxLen; omega
    case c4 => omega
    case c5 => simp; omega
    intro v' w2 hown' hgrow _
    have HO2 := hid (show w2.ownsRow w.heap.size 2 1 v' (kidsTo ts k (e + 1)).length (intC (kidsTo ts k (e + 1))) by rw [HX.out, intC_app, List.length_append]; exact hown')
    have HB2 := hid ((HB.out.alloc hsz (.cells #[.int .i64 (e : Int)] 2)).grown hgrow (by simp; omega) (fun g hg => (HOA.out.lt g hg).1))
    clear hown' hgrow
    go_wp2
    go_roundw
    case rel => exact ⟨e + 1, by go_num, by omega, by omega, HO2.out, HB2.out⟩
    case measure => simp [intOf]; omega
   ·rw [if_neg hp, List.append_nil] at HX
    have hd : (parI ts e == (k : Int)) = false := by simpa using hp
    generalize parI ts e = P at *
    clear hp
    go_wp2
    go_roundw
    case rel => exact ⟨e + 1, by go_num, by omega, by omega, by rw [HX.out]; exact HO.out, HB.out⟩
    case measure => simp [intOf]; omega
  ·have hee : e = n := by omega
   subst hee
   have HW := hid (show kidsTo ts k e = V by rw [<- HV.out]; unfold kidsN; rw [HN.out])
   have HO2 := HO.out
   rw [HW.out] at HO2
   have HO3 := hid HO2
   clear HO2 HO
   go_wp2
   go_ret
   exact ⟨_, rfl, HO3.out, HB.out⟩

theorem row64 {w : World} {B : Nat} {v : Value} {l : List Nat} (h : w.ownsRow B 2 1 v l.length (intC l)) : (∃ a cap, v = .slice a l.length cap) /\ ∀ i (hi : i < l.length), ∃ g cap, v = .slice (some ⟨g, 0, none⟩) l.length cap /\ g < w.heap.size /\ w.cell? ⟨g, i, none⟩ = some (.int .i64 (l[i] : Int)) := by
 rcases h.2 with ⟨rfl, h0⟩ | ⟨g, cap, cur, rfl, hg, hh, hn, hc, hs, ht⟩
 ·have : l = [] := List.eq_nil_of_length_eq_zero h0
  subst this
  exact ⟨⟨none, 0, rfl⟩, fun i hi => absurd hi (Nat.not_lt_zero _)⟩
 ·refine ⟨⟨_, _, rfl⟩, fun i hi => ⟨g, cap, rfl, lt_of_heap hh, ?_⟩⟩
  rw [Lib.cell_of_heap hh, <- Array.getElem?_toList]
  have hk : (intC l)[i]? = some (.int .i64 (l[i] : Int)) := by
   unfold intC
   rw [List.getElem?_map, List.getElem?_eq_getElem hi]
   rfl
  rw [<- ht, List.getElem?_take] at hk
  split at hk
  ·exact hk
  ·cases hk

theorem row64_mono {w : World} {B B' n : Nat} {v : Value} {xs : List Value} {e : TypeId} (h : w.ownsRow B' e 1 v n xs) (hB : B <= B') : w.ownsRow B e 1 v n xs := by
 refine ⟨h.1, ?_⟩
 rcases h.2 with h' | ⟨g, cap, cur, h1, h2, h3⟩
 ·exact .inl h'
 ·exact .inr ⟨g, cap, cur, h1, Nat.le_trans hB h2, h3⟩

noncomputable def kidsI (ts : List Tk) (x : Int) : List Nat := if hasB ts x = true then kidsN ts x.toNat else []

def textAt (ts : List Tk) (k : Nat) : ByteArray := match ts[k]? with | some t => t.text | none => ⟨#[]⟩

theorem textAt_at {ts : List Tk} {k : Nat} (h : k < ts.length) : textAt ts k = ts[k].text := by unfold textAt; rw [List.getElem?_eq_getElem h]

def joinT (ts : List Tk) (ks : List Nat) : ByteArray := ks.foldl (fun s k => s ++ textAt ts k) ⟨#[]⟩

theorem joinT_snoc (ts : List Tk) (ks : List Nat) (k : Nat) : joinT ts (ks ++ [k]) = joinT ts ks ++ textAt ts k := by simp [joinT]

theorem tree_text {ts : List Tk} (h : TreeP ts) (k : Nat) : (textAt ts k).size <= 60 := by
 by_cases hk : k < ts.length
 ·rw [textAt_at hk]
  obtain ⟨⟨_, hb⟩, _⟩ := h.2.2.2.2 k hk
  by_cases e : ts[k].name.size = 0
  ·rw [nodeB_tx e] at hb
   simp only [Bool.and_eq_true, textB, decide_eq_true_eq] at hb
   exact hb.2.2.2
  ·rw [nodeB_el e] at hb
   simp only [Bool.and_eq_true, decide_eq_true_eq] at hb
   omega
 ·unfold textAt
  rw [List.getElem?_eq_none (by omega)]
  exact Nat.zero_le _

theorem joinT_size {ts : List Tk} (h : ∀ k, (textAt ts k).size <= 60) (ks : List Nat) : (joinT ts ks).size <= 60 * ks.length := by
 have H : ∀ (ks : List Nat) (s : ByteArray), (ks.foldl (fun s k => s ++ textAt ts k) s).size <= s.size + 60 * ks.length := by
  intro ks
  induction ks with
  | nil => intro s; simp
  | cons k ks ih =>
   intro s
   have := ih (s ++ textAt ts k)
   have h2 := h k
   rw [ByteArray.size_append] at this
   simp only [List.foldl_cons, List.length_cons]
   omega
 have := H ks ⟨#[]⟩
 rw [show (⟨#[]⟩ : ByteArray).size = 0 from rfl] at this
 unfold joinT
 omega

set_option maxRecDepth 8000 in
set_option maxHeartbeats 4000000 in
theorem cTextS (a : Option Addr) (cap : Nat) (ts : List Tk) (k : Nat) (w : World) (hR : TkRow w a ts) (hk : k < ts.length) (hn : ts.length <= 1048576) (ht : TreeP ts) :
  Calls Tryz.prog 95 #[.slice a ts.length cap, .int .i64 (k : Int)] w fun e w' => e = .returned (.string (joinT ts (kidsN ts k))) /\ Below w.heap.size w w' := by
 have HR := hid hR
 have HS := hid (joinT_size (tree_text ht))
 have HTX := hid (tree_text ht)
 have C := hid (cKidsS a cap ts k w hR hk hn)
 have HK := hid (fun i (h : i ∈ kidsN ts k) => kidsN_lt h)
 have hlen := kidsTo_len ts k ts.length
 obtain ⟨V, hV⟩ : ∃ V, kidsN ts k = V := ⟨_, rfl⟩
 have hlen2 : V.length <= ts.length := by rw [<- hV]; exact hlen
 rw [hV] at C HK ⊢
 clear hV hR ht hlen
 obtain ⟨n, hnn⟩ : ∃ n, ts.length = n := ⟨_, rfl⟩
 have HN := hid hnn
 rw [hnn] at hn hk hlen2 C ⊢
 clear hnn
 go_enter Tryz.func95, Tryz.ntmps95
 go_wp2_with fail
 refine C.out.mono ?_
 rintro e w1 ⟨v, rfl, ho, hb1⟩
 obtain ⟨⟨av, cv, hv⟩, hrow⟩ := row64 ho
 have HRW := hid hrow
 have HB1 := hid hb1
 obtain ⟨L, hL⟩ : ∃ L, V.length = L := ⟨_, rfl⟩
 have HLL := hid hL
 rw [hL] at hv hlen2
 subst hv
 clear hrow hb1 ho C hL
 go_wp2_with fail
 go_loop [5, 7] (fun s x => ∃ i : Nat, x = .int .i64 (i : Int) /\ i <= L /\ Hid (s = .string (joinT ts (V.take i)))) (fun _ x => L - (intOf x).toNat)
 case atStart => exact ⟨0, rfl, Nat.zero_le _, rfl⟩
 case round =>
  obtain ⟨i, rfl, hi, HE⟩ := hrel
  have hse := HE.out
  have hsz := HS.out (V.take i)
  rw [List.length_take] at hsz
  by_cases hlt : i < L
  ·have hiV : i < V.length := by rw [HLL.out]; exact hlt
   have hin : (i : Int) < (L : Int) := by omega
   have HX := hid (show joinT ts (V.take (i + 1)) = joinT ts (V.take i) ++ textAt ts V[i] by rw [take_snocN hiV, joinT_snoc])
   obtain ⟨g, cg, eg, hgl, c0⟩ := HRW.out i hiV
   obtain ⟨rfl, rfl⟩ : av = some ⟨g, 0, none⟩ /\ cv = cg := by cases eg; exact ⟨rfl, rfl⟩
   have hq := HK.out V[i] (List.getElem_mem hiV)
   obtain ⟨b, o, aa, ca, ea, hb, c1, c2, c3, c4, _⟩ := (HR.out.below HB1.out) V[i] hq
   have htx := HTX.out V[i]
   rw [textAt_at hq] at htx HX
   have hqn : (V[i] : Int) < (n : Int) := by rw [HN.out] at hq; omega
   subst ea
   generalize ts[V[i]].text = T at *
   generalize V[i] = q at *
   generalize joinT ts (V.take i) = S at *
   subst hse
   clear c1 c2 c3 eg hiV
   have hf : ¬ 9223372036854775807 < S.size + T.size := by omega
   go_wp2_with fail
   go_round
   case rel => exact ⟨i + 1, by go_num, by omega, hid (by rw [HX.out])⟩
   case measure => simp [intOf]; omega
  ·have hie : i = L := by omega
   subst hie
   have HW := hid (show V.take i = V from List.take_of_length_le (by rw [HLL.out]; exact Nat.le_refl _))
   rw [HW.out] at hse
   subst hse
   clear hsz
   go_wp2_with fail
   go_ret
   exact ⟨rfl, HB1.out⟩

noncomputable def textI (ts : List Tk) (x : Int) : ByteArray := if hasB ts x = true then joinT ts (kidsN ts x.toNat) else ⟨#[]⟩

end Go.Proofs.YtlpbbkaelbafdaaGreatDoor

namespace Go.Proofs.YtlpbbkaelbafdaaGreatDoor
open Go.RowKit

structure PileAt (E : TypeId) (s : Nat) (w : World) (B g o : Nat) (cur : Array Value) (T : TypeId) (v : Value) (n : Nat) (cs : List Value) : Prop where
 ge : B <= g
 blk : w.heap[g]? = some (.cells cur T (0, 0))
 at_ : cur[o]? = some v
 row : w.ownsRow B E s v n cs
 ne : T ≠ E

theorem PileAt.lt {E s w B g o cur T v n cs} (h : PileAt E s w B g o cur T v n cs) : g < w.heap.size := lt_of_heap h.blk

theorem PileAt.cell {E s w B g o cur T v n cs} (h : PileAt E s w B g o cur T v n cs) : w.cell? ⟨g, o, none⟩ = some v := by
 rw [Lib.cell_of_heap h.blk]
 exact h.at_

theorem PileAt.own_ne {E s w B g o cur T v n cs} (h : PileAt E s w B g o cur T v n cs) : v.ownBlock ≠ some g := by
 intro e
 rcases h.row.2 with ⟨rfl, _⟩ | ⟨b, cap, c, rfl, _, hh, _⟩
 ·cases e
 ·have : b = g := Option.some.inj e
  subst this
  rw [h.blk] at hh
  injection hh with hh
  injection hh with _ h2 _
  exact h.ne h2

theorem PileAt.below {E s w w' B g o cur T v n cs} (h : PileAt E s w B g o cur T v n cs) (hb : Below w.heap.size w w') : PileAt E s w' B g o cur T v n cs :=
 ⟨h.ge, (hb.block g h.lt).trans h.blk, h.at_, ownsRow_below h.row hb, h.ne⟩

theorem own_less {w : World} {B : Nat} {E : TypeId} {s b n m cap : Nat} {xs : List Value} (h : w.ownsRow B E s (.slice (some ⟨b, 0, none⟩) n cap) n xs) (hm : m <= n) : w.ownsRow B E s (.slice (some ⟨b, 0, none⟩) m cap) m (xs.take (m * s)) := by
 rcases h.2 with ⟨e, _⟩ | ⟨g, c, cur, e, h1, h2, h3, h4, h5, h6⟩
 ·cases e
 ·injection e with e1 e2 e3
  injection e1 with e1
  injection e1 with e1 _ _
  subst e1 e3
  have hms : m * s <= n * s := Nat.mul_le_mul_right _ hm
  refine ⟨by rw [List.length_take, h.1]; omega, .inr ⟨b, cap, cur, rfl, h1, h2, by omega, h4, h5, ?_⟩⟩
  rw [<- h6, List.take_take]
  congr 1
  omega

theorem own_set {w : World} {B : Nat} {E : TypeId} {s n : Nat} {v : Value} {xs : List Value} (h : w.ownsRow B E s v n xs) {g : Nat} (hg : v.ownBlock ≠ some g) (o : Nat) (u : Value) : (w.setCell ⟨g, o, none⟩ u).ownsRow B E s v n xs :=
 h.kept (Lib.grownBy_setCell w g o u) (.inr hg)

theorem PileAt.mk_set {E : TypeId} {s : Nat} {w : World} {B g o : Nat} {cur : Array Value} {T : TypeId} {v : Value} (hg : B <= g) (hb : w.heap[g]? = some (.cells cur T (0, 0))) (ha : cur[o]? = some v) (hT : T ≠ E) {u : Value} {m : Nat} {ds : List Value} (hu : w.ownsRow B E s u m ds) (hn : u.ownBlock ≠ some g) : PileAt E s (w.setCell ⟨g, o, none⟩ u) B g o (cur.setIfInBounds o u) T u m ds := by
 refine ⟨hg, heap_setCell_same w g o cur T u hb, ?_, own_set hu hn o u, hT⟩
 have : o < cur.size := (Array.getElem?_eq_some_iff.1 ha).1
 simp [this]

theorem PileAt.set {E s w B g o cur T v n cs} (h : PileAt E s w B g o cur T v n cs) {u : Value} {m : Nat} {ds : List Value} (hu : w.ownsRow B E s u m ds) (hg : u.ownBlock ≠ some g) : PileAt E s (w.setCell ⟨g, o, none⟩ u) B g o (cur.setIfInBounds o u) T u m ds :=
 PileAt.mk_set h.ge h.blk h.at_ h.ne hu hg

theorem PileAt.drew {E s w B g o cur T v n cs} (h : PileAt E s w B g o cur T v n cs) : PileAt E s w.drew B g o cur T v n cs := ⟨h.ge, h.blk, h.at_, h.row.drew, h.ne⟩

theorem KeepB.drew {p : Nat -> Prop} {w w' : World} (h : KeepB p w w') : KeepB p w w'.drew := ⟨h.os, h.tape, h.output, h.size, h.block⟩

theorem PileAt.keep {E s w w' B g o cur T v n cs x} (h : PileAt E s w B g o cur T v n cs) (hk : KeepB (fun k => k = x) w w') (h1 : g ≠ x) (h2 : v.ownBlock ≠ some x) : PileAt E s w' B g o cur T v n cs :=
 ⟨h.ge, (hk.block g h.lt h1).trans h.blk, h.at_, h.row.kept (row := some x) ⟨hk.os, hk.tape, hk.output, hk.size, fun k hk1 hk2 => hk.block k hk1 (fun e => hk2 (by rw [e]))⟩ (.inr h2), h.ne⟩

def lenV : Value -> Nat
 | .slice _ n _ => n
 | _ => 0

theorem own_len {w : World} {B : Nat} {E : TypeId} {s n : Nat} {v : Value} {xs : List Value} (h : w.ownsRow B E s v n xs) : ∃ a c, v = .slice a n c := by
 rcases h.2 with ⟨rfl, rfl⟩ | ⟨g, cap, cur, rfl, _⟩
 ·exact ⟨none, 0, rfl⟩
 ·exact ⟨_, _, rfl⟩

theorem own_pos {w : World} {B : Nat} {E : TypeId} {s n : Nat} {v : Value} {xs : List Value} (h : w.ownsRow B E s v n xs) (hn : 0 < n) : ∃ b c, v = .slice (some ⟨b, 0, none⟩) n c /\ b < w.heap.size /\ B <= b /\ n <= c /\ ∀ j, j < n * s -> w.cell? ⟨b, j, none⟩ = xs[j]? := by
 rcases h.2 with ⟨rfl, rfl⟩ | ⟨g, cap, cur, rfl, hB, hh, hc, _, hs, ht⟩
 ·omega
 ·refine ⟨g, cap, rfl, lt_of_heap hh, hB, hc, fun j hj => ?_⟩
  rw [Lib.cell_of_heap hh, <- ht, List.getElem?_take, if_pos hj, Array.getElem?_toList]

abbrev PileI (w : World) (B g o : Nat) (cur : Array Value) (T : TypeId) (v : Value) (L : List Nat) : Prop := PileAt 2 1 w B g o cur T v L.length (intC L.reverse)

theorem rev_last (x : Nat) (L : List Nat) : (intC (x :: L).reverse)[L.length]? = some (.int .i64 (x : Int)) := by
 rw [List.reverse_cons, intC_app, List.getElem?_append_right (by rw [intC_len, List.length_reverse]; exact Nat.le_refl _)]
 simp [intC]

theorem rev_take (x : Nat) (L : List Nat) : (intC (x :: L).reverse).take (L.length * 1) = intC L.reverse := by
 rw [List.reverse_cons, intC_app, List.take_left' (by rw [intC_len, List.length_reverse, Nat.mul_one])]

theorem PileAt.less {w : World} {B g o b c n : Nat} {cur : Array Value} {T : TypeId} {x : Nat} {L : List Nat} (h : PileI w B g o cur T (.slice (some ⟨b, 0, none⟩) (x :: L).length c) (x :: L)) (hn : L.length = n) :
  PileI (w.setCell ⟨g, o, none⟩ (.slice (some ⟨b, 0, none⟩) n c)) B g o (cur.setIfInBounds o (.slice (some ⟨b, 0, none⟩) n c)) T (.slice (some ⟨b, 0, none⟩) n c) L := by
 subst hn
 have h1 := own_less (m := L.length) h.row (by rw [List.length_cons]; omega)
 rw [rev_take] at h1
 exact h.set h1 h.own_ne

set_option maxHeartbeats 1000000 in
theorem cPiSize (B g o : Nat) (cur : Array Value) (T : TypeId) (v : Value) (L : List Nat) (w : World) (h : PileI w B g o cur T v L) :
  Calls Tryz.prog 122 #[.pointer (some ⟨g, o, none⟩)] w fun e w' => e = .returned (.int .i64 (L.length : Nat)) /\ w' = w := by
 have c0 := h.cell
 obtain ⟨a, c, rfl⟩ := own_len h.row
 clear h
 generalize L.length = n at *
 go_enter Tryz.func122, Tryz.ntmps122
 go_wp2
 go_ret
 exact ⟨rfl, rfl⟩

set_option maxHeartbeats 1000000 in
theorem cPiTop0 (B g o : Nat) (cur : Array Value) (T : TypeId) (v : Value) (w : World) (h : PileI w B g o cur T v []) :
  Calls Tryz.prog 148 #[.pointer (some ⟨g, o, none⟩)] w fun e w' => e = .returned (.tuple #[.int .i64 0, .bool false]) /\ Below w.heap.size w w' := by
 have c0 := h.cell
 obtain ⟨a, c, rfl⟩ := own_len h.row
 clear h
 go_enter Tryz.func148, Tryz.ntmps148
 go_wp2
 go_ret2
 exact ⟨rfl, Below.refl _ _⟩

set_option maxHeartbeats 1000000 in
theorem cPiTop (B g o : Nat) (cur : Array Value) (T : TypeId) (v : Value) (x : Nat) (L : List Nat) (w : World) (h : PileI w B g o cur T v (x :: L)) (hn : L.length <= 1048576) :
  Calls Tryz.prog 148 #[.pointer (some ⟨g, o, none⟩)] w fun e w' => e = .returned (.tuple #[.int .i64 (x : Int), .bool true]) /\ Below w.heap.size w w' := by
 have c0 := h.cell
 obtain ⟨b, c, rfl, hb, _, hc, hcs⟩ := own_pos h.row (Nat.succ_pos _)
 have c1 := hcs L.length (by rw [List.length_cons]; omega)
 rw [rev_last] at c1
 clear h hcs
 rw [List.length_cons] at c0 hc
 obtain ⟨n, hnn⟩ : ∃ n, L.length = n := ⟨_, rfl⟩
 rw [hnn] at c0 c1 hn hc
 clear hnn
 have hq : ((n + 1 : Nat) : Int) = (n : Int) + 1 := by omega
 have hd : (((n : Int) + 1) == 0) = false := by simp; omega
 go_enter Tryz.func148, Tryz.ntmps148
 go_wp2_with fail
 go_quiet (fail)
 go_wp2_with fail
 go_ret2
 exact ⟨rfl, below_drewN (Below.refl _ _) _⟩

end Go.Proofs.YtlpbbkaelbafdaaGreatDoor
