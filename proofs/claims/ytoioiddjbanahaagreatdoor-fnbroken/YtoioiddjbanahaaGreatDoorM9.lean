/-  -/
import Derived.Test.YtoioiddjbanahaaGreatDoorM3
import Derived.Test.YtoioiddjbanahaaGreatDoorM8
import Derived.Test.YtoioiddjbanahaaGreatDoorM4
import Derived.Maps.AppendAt
import Derived.Deep.Upon
import Derived.Deep.RegionHeld
set_option linter.unusedVariables false
set_option linter.unusedSimpArgs false
namespace Go.Proofs.YtoioiddjbanahaaGreatDoor.Nd

open Go.RowKit

theorem infoR : (Tryz.prog.info? 32).map (fun i => (i.zero, i.size, i.bytes)) = some (some (.agg #[.int .i64 0, .string ⟨#[]⟩, .slice none 0 0, .string ⟨#[]⟩]), 4, 64) := by kernel_rfl

structure E where
 t : Tk
 a : Option Addr
 cap : Nat

def c1 (e : E) : List Value := [.int .i64 e.t.kind, .string e.t.name, .slice e.a e.t.attrs.length e.cap, .string e.t.text]

def cs (es : List E) : List Value := es.flatMap c1

theorem cs_app (es fs : List E) : cs (es ++ fs) = cs es ++ cs fs := by unfold cs; rw [List.flatMap_append]

theorem cs_one (e : E) : cs [e] = c1 e := by simp [cs]

theorem cs_len (es : List E) : (cs es).length = es.length * 4 := by
 induction es with
 | nil => rfl
 | cons x es ih => show (cs es).length + 4 = _; rw [ih, List.length_cons]; omega

theorem cs_cell (es : List E) : ∀ u ∈ cs es, u.oneCell' = true := by
 intro u hu
 unfold cs at hu
 obtain ⟨e, _, he⟩ := List.mem_flatMap.1 hu
 simp [c1] at he
 rcases he with rfl | rfl | rfl | rfl <;> rfl

theorem cs_get (es : List E) (j : Nat) (h : j < es.length) : (cs es)[j * 4]? = some (.int .i64 es[j].t.kind) /\ (cs es)[j * 4 + 1]? = some (.string es[j].t.name)
  /\ (cs es)[j * 4 + 2]? = some (.slice es[j].a es[j].t.attrs.length es[j].cap) /\ (cs es)[j * 4 + 3]? = some (.string es[j].t.text) := by
 induction es generalizing j with
 | nil => simp at h
 | cons x es ih =>
  have e : cs (x :: es) = .int .i64 x.t.kind :: .string x.t.name :: .slice x.a x.t.attrs.length x.cap :: .string x.t.text :: cs es := rfl
  rw [e]
  match j with
  | 0 => exact ⟨rfl, rfl, rfl, rfl⟩
  | j + 1 =>
   have := ih j (by simpa using h)
   rw [show (j + 1) * 4 = j * 4 + 1 + 1 + 1 + 1 by omega]
   exact this

def Apart (e f : E) : Prop := 0 < e.t.attrs.length -> 0 < f.t.attrs.length -> ∀ g o g' o', e.a = some ⟨g, o, none⟩ -> f.a = some ⟨g', o', none⟩ -> ¬ g = g'

structure Row (w : World) (B : Nat) (v : Value) (es : List E) : Prop where
 own : w.ownsRow B 32 4 v es.length (cs es)
 ats : ∀ e ∈ es, OwnAts w B e.a e.t.attrs /\ ∀ g o, 0 < e.t.attrs.length -> e.a = some ⟨g, o, none⟩ -> ¬ v.ownBlock = some g
 apart : es.Pairwise Apart

theorem Row.below {w w' : World} {B : Nat} {v : Value} {es : List E} (h : Row w B v es) (hb : Below w.heap.size w w') : Row w' B v es :=
 ⟨ownsRow_below h.own hb, fun e he => ⟨(h.ats e he).1.below hb, (h.ats e he).2⟩, h.apart⟩

theorem Row.mono {w : World} {B B' : Nat} {v : Value} {es : List E} (h : Row w B' v es) (hB : B <= B') : Row w B v es := by
 refine ⟨⟨h.own.1, ?_⟩, fun e he => ⟨fun hl => ?_, (h.ats e he).2⟩, h.apart⟩
 ·rcases h.own.2 with h' | ⟨g, cap, cur, h1, h2, h3⟩
  ·exact .inl h'
  ·exact .inr ⟨g, cap, cur, h1, Nat.le_trans hB h2, h3⟩
 ·obtain ⟨g, o, cu, e1, e2, e3⟩ := (h.ats e he).1 hl
  exact ⟨g, o, cu, e1, Nat.le_trans hB e2, e3⟩

theorem Row.start (w : World) (B g : Nat) (hB : B <= g) (hh : w.heap[g]? = some (.cells #[] 32 (0, 0))) : Row w B (.slice (some ⟨g, 0, none⟩) 0 0) [] :=
 ⟨⟨rfl, .inr ⟨g, 0, #[], rfl, hB, hh, Nat.le_refl _, Nat.zero_le _, rfl, rfl⟩⟩, fun e he => absurd he List.not_mem_nil, List.Pairwise.nil⟩

theorem Row.one {w : World} {B g : Nat} {e : E} (hB : B <= g) (hh : w.heap[g]? = some (.cells #[.int .i64 e.t.kind, .string e.t.name, .slice e.a e.t.attrs.length e.cap, .string e.t.text] 32 (0, 0))) (ha : OwnAts w B e.a e.t.attrs) (hne : ∀ g' o, 0 < e.t.attrs.length -> e.a = some ⟨g', o, none⟩ -> ¬ g' = g) :
  Row w B (.slice (some ⟨g, 0, none⟩) 1 1) [e] :=
 ⟨⟨rfl, .inr ⟨g, 1, _, rfl, hB, hh, Nat.le_refl _, by decide, rfl, rfl⟩⟩, fun x hx => by
  rw [List.mem_singleton] at hx
  subst hx
  exact ⟨ha, fun g' o hl e1 e2 => hne g' o hl e1 (by simp [Value.ownBlock] at e2; exact e2.symm)⟩, List.pairwise_singleton _ _⟩

theorem Row.slice {w : World} {B : Nat} {v : Value} {es : List E} (h : Row w B v es) : ∃ a c, v = .slice a es.length c := by
 rcases h.own.2 with ⟨rfl, h0⟩ | ⟨g, cap, _, rfl, _⟩
 ·exact ⟨none, 0, by rw [h0]⟩
 ·exact ⟨_, cap, rfl⟩

theorem Row.tkRow {w : World} {B : Nat} {v : Value} {es : List E} (h : Row w B v es) : ∃ a cap, v = .slice a es.length cap /\ TkRow w a (es.map (·.t)) := by
 rcases h.own.2 with ⟨rfl, h0⟩ | ⟨g, cap, cur, rfl, hg, hh, hn, hc, hs, ht⟩
 ·exact ⟨none, 0, by rw [h0], fun j hj => by rw [List.length_map] at hj; omega⟩
 ·refine ⟨some ⟨g, 0, none⟩, cap, rfl, fun j hj => ?_⟩
  rw [List.length_map] at hj
  obtain ⟨k0, k1, k2, k3⟩ := cs_get es j hj
  have hx : ∀ k u, (cs es)[k]? = some u -> w.cell? ⟨g, 0 + k, none⟩ = some u := by
   intro k u hk
   rw [Lib.cell_of_heap hh, Nat.zero_add, <- Array.getElem?_toList]
   rw [<- ht, List.getElem?_take] at hk
   split at hk
   ·exact hk
   ·cases hk
  rw [List.getElem_map]
  exact ⟨g, 0, es[j].a, es[j].cap, rfl, lt_of_heap hh, hx _ _ k0, hx _ _ k1, hx _ _ k2, hx _ _ k3, (h.ats _ (List.getElem_mem hj)).1.atRow⟩

theorem Row.join {w w' : World} {B : Nat} {v v' : Value} {es fs : List E} (h : Row w B v es)
  (hf : ∀ e ∈ fs, OwnAts w B e.a e.t.attrs /\ ∀ g o, 0 < e.t.attrs.length -> e.a = some ⟨g, o, none⟩ -> ¬ v.ownBlock = some g) (hp : fs.Pairwise Apart) (hx : ∀ e ∈ es, ∀ f ∈ fs, Apart e f)
  (ho : w'.ownsRow B 32 4 v' (es.length + fs.length) (cs es ++ cs fs)) (hgr : w.grownBy w' v.ownBlock) (hw : v'.ownBlock = v.ownBlock \/ v'.ownBlock = some w.heap.size) : Row w' B v' (es ++ fs) := by
 have key : ∀ e : E, (OwnAts w B e.a e.t.attrs /\ ∀ g o, 0 < e.t.attrs.length -> e.a = some ⟨g, o, none⟩ -> ¬ v.ownBlock = some g) -> OwnAts w' B e.a e.t.attrs /\ ∀ g o, 0 < e.t.attrs.length -> e.a = some ⟨g, o, none⟩ -> ¬ v'.ownBlock = some g := by
  rintro e ⟨h1, h2⟩
  refine ⟨fun hl => ?_, fun g o hl hg x => ?_⟩
  ·obtain ⟨g, o, cu, e1, e2, e3, e4⟩ := h1 hl
   exact ⟨g, o, cu, e1, e2, (hgr.block g (lt_of_heap e3) (fun x => h2 g o hl e1 x.symm)).trans e3, e4⟩
  ·rcases hw with hw | hw
   ·exact h2 g o hl hg (hw.symm.trans x)
   ·rw [hw] at x
    simp only [Option.some.injEq] at x
    obtain ⟨g2, o2, cu, e1, _, e3, _⟩ := h1 hl
    rw [hg] at e1
    cases e1
    have := lt_of_heap e3
    omega
 refine ⟨by rw [List.length_append, cs_app]; exact ho, fun e he => ?_, List.pairwise_append.2 ⟨h.apart, hp, hx⟩⟩
 rcases List.mem_append.1 he with h' | h'
 ·exact key e (h.ats e h')
 ·exact key e (hf e h')

theorem wpL_join (w : World) {ops : Array Oper} {rest : List Oper} {o : Oper} {a : Act} {Q : Exit -> Act -> World -> Prop} (hgd : o.guard = none) (s x : Operand)
  (ho : o.op = .call { callee := .builtin .append, args := #[s, x], argTypes := #[24, 24] }) (base : Nat) (v : Value) (es fs : List E) (hs : a.eval s = v) (hown : Row w base v es)
  (g m c : Nat) (hx : a.eval x = .slice (some ⟨g, 0, none⟩) m c) (hm : m = fs.length) (hB : ∀ j u, (cs fs)[j]? = some u -> w.cell? ((⟨g, 0, none⟩ : Addr).add j) = some u)
  (hf : ∀ e ∈ fs, OwnAts w base e.a e.t.attrs /\ ∀ g o, 0 < e.t.attrs.length -> e.a = some ⟨g, o, none⟩ -> ¬ v.ownBlock = some g) (hp : fs.Pairwise Apart) (hap : ∀ e ∈ es, ∀ f ∈ fs, Apart e f) (hn : es.length + fs.length <= 2097152) (hb : base <= w.heap.size)
  (h : ∀ a' c' w', Row w' base (.slice a' (es ++ fs).length c') (es ++ fs) -> Below base w w' -> w.grownBy w' v.ownBlock -> wpList Tryz.prog ops Q rest (a.put o.dst (.slice a' (es ++ fs).length c')) w') : wpList Tryz.prog ops Q (o :: rest) a w := by
 subst hm
 obtain ⟨i0, hi, hz0, hz1, hz2⟩ := info_parts infoR
 refine wpList_append_own_at w hgd s x 24 ho base 32 i0 _ 4 64 Tryz.underlying24 hi hz0 hz1 hz2 rfl (by decide) v es.length (cs es) hs hown.own ⟨g, 0, none⟩ fs.length c (cs fs) hx (cs_len fs) hB (cs_cell fs) (by unfold maxLen; omega) (by omega) hb ?_
 intro v' w' ho' hg' _ hw'
 have hr := hown.join hf hp hap ho' hg' hw'
 obtain ⟨a', c', hv'⟩ := hr.slice
 subst hv'
 exact h a' c' w' hr ((Below.refl base w).grown hg' hb (fun k e => (hown.own.lt k e).1)) hg'

theorem step_join {ops : Array Oper} {o : Oper} {a : Act} {w : World} {K : Act -> World -> Prop} {Q : Exit -> Act -> World -> Prop} {F : Prop} (hgd : o.guard = none) (s x : Operand)
  (ho : o.op = .call { callee := .builtin .append, args := #[s, x], argTypes := #[24, 24] }) (base : Nat) (v : Value) (es fs : List E) (hs : a.eval s = v) (hown : Row w base v es)
  (g m c : Nat) (hx : a.eval x = .slice (some ⟨g, 0, none⟩) m c) (hm : m = fs.length) (hB : ∀ j u, (cs fs)[j]? = some u -> w.cell? ((⟨g, 0, none⟩ : Addr).add j) = some u)
  (hf : ∀ e ∈ fs, OwnAts w base e.a e.t.attrs /\ ∀ g o, 0 < e.t.attrs.length -> e.a = some ⟨g, o, none⟩ -> ¬ v.ownBlock = some g) (hp : fs.Pairwise Apart) (hap : ∀ e ∈ es, ∀ f ∈ fs, Apart e f) (hn : es.length + fs.length <= 2097152) (hb : base <= w.heap.size)
  (h : ∀ a' c' w', Row w' base (.slice a' (es ++ fs).length c') (es ++ fs) -> Below base w w' -> w.grownBy w' v.ownBlock -> K (a.put o.dst (.slice a' (es ++ fs).length c')) w') :
  if Region.wanted o (yielded ops a.tmps) = true then Oper.wp Tryz.prog o a w K Q else F := by
 have hw : Region.wanted o (yielded ops a.tmps) = true := by simp [Region.wanted, hgd]
 rw [if_pos hw]
 subst hm
 obtain ⟨i0, hi, hz0, hz1, hz2⟩ := info_parts infoR
 obtain ⟨v', w', hr, ho', hg', _, hw'⟩ := run_append_own_at (P := Tryz.prog) w base 24 o.type 32 i0 _ 4 64 Tryz.underlying24 hi hz0 hz1 hz2 rfl (by decide) v es.length (cs es) hown.own ⟨g, 0, none⟩ fs.length c (cs fs) (cs_len fs) hB (cs_cell fs) (by unfold maxLen; omega) (by omega) hb
 have hrow := hown.join hf hp hap ho' hg' hw'
 obtain ⟨a', c', hv'⟩ := hrow.slice
 subst hv'
 unfold Oper.wp execOp
 simp only [ho, resolve, invoke, builtin, Sem.run_bind, Sem.run_pure, Result.andThen_ok, List.map_toArray, List.map_cons, List.map_nil, hs, hx, hr]
 exact h a' c' w' hrow ((Below.refl base w).grown hg' hb (fun k e => (hown.own.lt k e).1)) hg'

end Go.Proofs.YtoioiddjbanahaaGreatDoor.Nd

namespace Go.Proofs.YtoioiddjbanahaaGreatDoor

open Go.RowKit

theorem step_app_at {P : Program} {ops : Array Oper} {o : Oper} {a : Act} {w : World} {K : Act -> World -> Prop} {Q : Exit -> Act -> World -> Prop} {E : Prop}
  (hg : o.guard = none) (s x : Operand) (t : TypeId) (hop : o.op = Op.call { callee := Callee.builtin Builtin.append, args := #[s, x], argTypes := #[t, t] })
  (base : Nat) (e : TypeId) (i : TypeInfo) (z : Value) (size bytes : Nat) (h1 : P.underlying t = some (.slice e)) (h2 : P.info? e = some i) (h3 : i.zero = some z) (h4 : i.size = size) (h5 : i.bytes = bytes) (h6 : z.cells.size = size) (h7 : 0 < size)
  (v : Value) (n : Nat) (xs : List Value) (hs : a.eval s = v) (hown : w.ownsRow base e size v n xs)
  (ad : Addr) (m c : Nat) (news : List Value) (hx : a.eval x = .slice (some ad) m c) (hn : news.length = m * size) (hc : ∀ j u, news[j]? = some u -> w.cell? (ad.add j) = some u) (h1c : ∀ u ∈ news, u.oneCell' = true)
  (b1 : n + m <= maxLen) (b2 : (n + m) * bytes <= 140737488355328) (b3 : base <= w.heap.size)
  (hK : ∀ v' w', w'.ownsRow base e size v' (n + m) (xs ++ news) -> w.grownBy w' v.ownBlock -> (v'.ownBlock = v.ownBlock \/ v'.ownBlock = some w.heap.size) -> K (a.put o.dst v') w') :
  if Region.wanted o (yielded ops a.tmps) = true then Oper.wp P o a w K Q else E := by
 have hw : Region.wanted o (yielded ops a.tmps) = true := by simp [Region.wanted, hg]
 rw [if_pos hw]
 obtain ⟨v', w', hrun, r1, r2, _, r3⟩ := run_append_own_at (P := P) w base t o.type e i z size bytes h1 h2 h3 h4 h5 h6 h7 v n xs hown ad m c news hn hc h1c b1 b2 b3
 unfold Oper.wp
 simp [execOp, hop, resolve, invoke, builtin, hs, hx, hrun, Result.andThen]
 exact hK v' w' r1 r2 r3

theorem two_cells (w : World) (x y : Value) (T : TypeId) : ∀ j u, [x, y][j]? = some u -> (w.alloc (.cells #[x, y] T)).cell? ((⟨w.heap.size, 0, none⟩ : Addr).add j) = some u := by
 intro j u hj
 match j, hj with
 | 0, hj => simp at hj; subst hj; simp [Addr.add]
 | 1, hj => simp at hj; subst hj; simp [Addr.add]

theorem box2e {w : World} {g : Nat} {x y : Value} {T : TypeId} (h : w.heap[g]? = some (.cells #[x, y] T (0, 0))) : (w.cell? ⟨g, 0, none⟩ = some x /\ w.cell? ⟨g, 1, none⟩ = some y) /\ (w.frozen? ⟨g, 0, none⟩ = false /\ w.frozen? ⟨g, 1, none⟩ = false) :=
 ⟨⟨by rw [Lib.cell_of_heap h]; rfl, by rw [Lib.cell_of_heap h]; rfl⟩, Lib.frozen_of_heap h 0, Lib.frozen_of_heap h 1⟩

theorem box_set2 {w1 : World} {b : Nat} {x y u v : Value} {T : TypeId} (h : w1.heap[b]? = some (.cells #[x, y] T (0, 0))) : ((w1.setCell ⟨b, 0, none⟩ u).setCell ⟨b, 1, none⟩ v).heap[b]? = some (.cells #[u, v] T (0, 0)) :=
 heap_setCell_same _ _ _ _ _ _ (heap_setCell_same w1 b 0 _ _ u h)

theorem atC_app (l m : List At) : atC (l ++ m) = atC l ++ atC m := by simp [atC]

theorem cell_grownR {w w' : World} {row : Option Nat} (h : w.grownBy w' row) {b o : Nat} {v : Value} (hc : w.cell? ⟨b, o, none⟩ = some v) (hb : b < w.heap.size) (hr : row ≠ some b) : w'.cell? ⟨b, o, none⟩ = some v :=
 (World.cell?_of_block (a := ⟨b, o, none⟩) (h.block b hb (fun e => hr e.symm))).trans hc

theorem blk_grownR {w w' : World} {row : Option Nat} {e T : TypeId} {b : Nat} {c : Array Value} (h : w.heap[b]? = some (.cells c T (0, 0))) (hg : w.grownBy w' row) (hr : ∀ k, row = some k -> ∃ c fz, w.heap[k]? = some (.cells c e fz)) (hT : T ≠ e) : w'.heap[b]? = some (.cells c T (0, 0)) :=
 (hg.block b (lt_of_heap h) (fun e1 => by
  obtain ⟨c2, fz2, h3⟩ := hr b e1.symm
  rw [h] at h3
  injection h3 with h3
  injection h3 with _ h4 _
  exact hT h4)).trans h

theorem Nd.Row.keepB {w w' : World} {B : Nat} {v : Value} {es : List Nd.E} {p : Nat -> Prop} (h : Nd.Row w B v es) (hk : KeepB p w w') (hp : ∀ k, p k -> ∀ c e fz, w.heap[k]? = some (.cells c e fz) -> e ≠ 32 /\ e ≠ 67) : Nd.Row w' B v es := by
 refine ⟨⟨h.own.1, ?_⟩, fun e he => ⟨fun hl => ?_, (h.ats e he).2⟩, h.apart⟩
 ·rcases h.own.2 with h' | ⟨g, cap, cur, h1, h2, h3, h4⟩
  ·exact .inl h'
  ·exact .inr ⟨g, cap, cur, h1, h2, (hk.block g (lt_of_heap h3) (fun hpg => (hp g hpg _ _ _ h3).1 rfl)).trans h3, h4⟩
 ·obtain ⟨g, o, cu, e1, e2, e3, e4⟩ := (h.ats e he).1 hl
  exact ⟨g, o, cu, e1, e2, (hk.block g (lt_of_heap e3) (fun hpg => (hp g hpg _ _ _ e3).2 rfl)).trans e3, e4⟩

theorem Nd.Row.kind {w : World} {B : Nat} {v : Value} {es : List Nd.E} (h : Nd.Row w B v es) : ∀ k, v.ownBlock = some k -> ∃ c fz, w.heap[k]? = some (.cells c 32 fz) := by
 intro k hk
 rcases h.own.2 with ⟨rfl, _⟩ | ⟨g, cap, cur, rfl, _, hh, _⟩
 ·cases hk
 ·have : g = k := Option.some.inj hk
  subst this
  exact ⟨_, _, hh⟩

end Go.Proofs.YtoioiddjbanahaaGreatDoor

namespace Go.Proofs.YtoioiddjbanahaaGreatDoor

open Go.RowKit

theorem tab3_at (w : World) (B x : Nat) (hx : x < 3) (h : w.heap[B]? = some (.cells #[.string ⟨#[117]⟩, .string ⟨#[119]⟩, .string ⟨#[122]⟩] 9 (0, 0))) : ∃ t : ByteArray, w.cell? ⟨B, x, none⟩ = some (.string t) /\ t.size <= 1 := by
 rw [Lib.cell_of_heap h]
 rcases (show x = 0 \/ x = 1 \/ x = 2 from by omega) with rfl | rfl | rfl
 all_goals exact ⟨_, rfl, by decide⟩

theorem four_cells (w : World) (x y z t : Value) (T : TypeId) : ∀ j u, [x, y, z, t][j]? = some u -> (w.alloc (.cells #[x, y, z, t] T)).cell? ((⟨w.heap.size, 0, none⟩ : Addr).add j) = some u := by
 intro j u hj
 match j, hj with
 | 0, hj => simp at hj; subst hj; simp [Addr.add]
 | 1, hj => simp at hj; subst hj; simp [Addr.add]
 | 2, hj => simp at hj; subst hj; simp [Addr.add]
 | 3, hj => simp at hj; subst hj; simp [Addr.add]

theorem box_set1 {w1 : World} {b : Nat} {x y v : Value} {T : TypeId} (h : w1.heap[b]? = some (.cells #[x, y] T (0, 0))) : (w1.setCell ⟨b, 1, none⟩ v).heap[b]? = some (.cells #[x, v] T (0, 0)) :=
 heap_setCell_same w1 b 1 _ _ v h

set_option maxRecDepth 8000 in
set_option maxHeartbeats 8000000 in
theorem cDrawAttrs (r : Bool) (w0 : World) (a : Option Addr) (len cap b : Nat) (w : World) (hlen : len <= 4096) (hcr : CodeRow w0 a len) (hC : Cur w0 a len cap b w) :
  Calls Tryz.prog 136 #[.pointer (some ⟨b, 0, none⟩), .bool r] w fun e w' => ∃ a' c' l, e = .returned (.slice a' (l : List At).length c') /\ l.length <= 4 /\ DSt w0 a len cap b w w' (.slice a' l.length c') l := by
 have HR := hid hcr
 have HC := hid hC
 clear hcr hC
 have hbl : b < w.heap.size := by obtain ⟨i, h, _, _, hh⟩ := HC.out.2.2; exact lt_of_heap hh
 have HDZ := hid (show DSt w0 a len cap b w (w.alloc (.cells #[] 67)) (.slice (some ⟨w.heap.size, 0, none⟩) 0 0) [] from ⟨World.ownsRow_made w #[] 0 (Nat.le_refl _) (Nat.zero_le _) rfl, fun x hx => absurd hx List.not_mem_nil, HC.out.alloc _, World.grownBy_alloc w _ _, hbl, HC.out.2.1.size⟩)
 clear hbl
 go_enter Tryz.func136, Tryz.ntmps136
 go_upto_region 2 with fail
 go_cut [16] from 11 to 72 (fun x wv => ∃ B : Bool, x = .bool B /\ Hid (DSt w0 a len cap b w wv (.slice (some ⟨w.heap.size, 0, none⟩) 0 0) []))
 case first =>
  cases r
  ·go_wp2_with fail
   go_meet
   exact ⟨false, rfl, HDZ.out⟩
  ·go_wp2_with fail
   refine (cOnce 6 w0 a len cap b _ hlen HR.out HDZ.out.cur (by omega) (by omega)).mono ?_
   rintro e w2 ⟨x, rfl, hC2, hG2⟩
   have HD2 := hid (HDZ.out.draw hC2 hG2)
   clear hC2 hG2
   cases x
   ·go_wp2_with fail
    go_meet
    exact ⟨true, rfl, HD2.out⟩
   ·go_wp2_with fail
    go_meet
    exact ⟨false, rfl, HD2.out⟩
 obtain ⟨BR, rfl, HDY⟩ := hcut
 clear HDZ
 go_upto_if 16 with fail
 go_cut [5] from 17 to 72 (fun x wv => ∃ l : List At, l.length <= 2 /\ Hid (DSt w0 a len cap b w wv x l))
 case first =>
  cases BR
  ·go_wp2_with fail
   go_meet
   exact ⟨[], by simp, HDY.out⟩
  ·obtain ⟨i0, hi, hz0, hz1, hz2⟩ := info_parts infoAtW
   go_wp2_with fail
   refine (cText ⟨#[49, 47]⟩ 2 w0 a len cap b _ (by omega) (by omega) (by decide) (by decide) hlen HR.out HDY.out.cur).mono ?_
   rintro e w3 ⟨t5, rfl, ht5, hC3, hG3⟩
   have HD3 := hid (HDY.out.draw hC3 hG3)
   obtain ⟨S5, hS5⟩ : ∃ S, (⟨#[117]⟩ : ByteArray) ++ t5 = S := ⟨_, rfl⟩
   have hz5 : S5.size = 1 + t5.size := by rw [<- hS5, ByteArray.size_append]; rfl
   have hov : ¬ 9223372036854775807 < (⟨#[117]⟩ : ByteArray).size + t5.size := by rw [show (⟨#[117]⟩ : ByteArray).size = 1 from rfl]; omega
   have hz6 : S5.size <= 5 := by omega
   have HOA := hid (HD3.out.own.alloc (.cells #[.string ⟨#[110, 115, 58, 112]⟩, .string S5, .string ⟨#[110, 115, 58, 113]⟩, .string ⟨#[119]⟩] 67))
   have HDA := hid (HD3.out.alloc (.cells #[.string ⟨#[110, 115, 58, 112]⟩, .string S5, .string ⟨#[110, 115, 58, 113]⟩, .string ⟨#[119]⟩] 67))
   have HNE := hid (four_cells w3 (.string ⟨#[110, 115, 58, 112]⟩) (.string S5) (.string ⟨#[110, 115, 58, 113]⟩) (.string ⟨#[119]⟩) 67)
   have HON := hid (show ∀ u ∈ [Value.string ⟨#[110, 115, 58, 112]⟩, .string S5, .string ⟨#[110, 115, 58, 113]⟩, .string ⟨#[119]⟩], u.oneCell' = true by
    intro u hu
    simp at hu
    rcases hu with rfl | rfl | rfl | rfl <;> rfl)
   have hwb := HD3.out.gr.size
   clear hC3 hG3 hz5
   go_wp2_with (at_builtin; refine wpList_append_own _ rfl _ _ 30 rfl w.heap.size 67 i0 _ 2 32 Tryz.underlying30 hi hz0 hz1 hz2 rfl (by decide) _ _ _ rfl HOA.out ⟨w3.heap.size, 0, none⟩ 2 2 [.string ⟨#[110, 115, 58, 112]⟩, .string S5, .string ⟨#[110, 115, 58, 113]⟩, .string ⟨#[119]⟩] rfl rfl ?c1 ?c2 ?c3 ?c4 ?c5 ?_)
   case c1 => exact HNE.out
   case c2 => exact HON.out
   case c3 => unfold maxLen; simp
   case c4 => simp
   case c5 => simp; omega
   intro v6 w6 hown6 hgrow6 _
   have HD6 := hid (HDA.out.join (m := [⟨⟨#[110, 115, 58, 112]⟩, S5⟩, ⟨⟨#[110, 115, 58, 113]⟩, ⟨#[119]⟩⟩]) (fun x hx => by
    simp at hx
    rcases hx with rfl | rfl
    ·exact ⟨by show (⟨#[110, 115, 58, 112]⟩ : ByteArray).size <= 20; decide, by show S5.size <= 20; omega⟩
    ·exact ⟨by decide, by decide⟩) hown6 hgrow6)
   clear hown6 hgrow6
   go_wp2_with fail
   go_meet
   exact ⟨[⟨⟨#[110, 115, 58, 112]⟩, S5⟩, ⟨⟨#[110, 115, 58, 113]⟩, ⟨#[119]⟩⟩], by simp, HD6.out⟩
 obtain ⟨lz, hlz, HDX⟩ := hcut
 go_wp2_with fail
 refine (cBelow 3 w0 a len cap b _ hlen HR.out HDX.out.cur (by omega) (by omega)).mono ?_
 rintro e w2 ⟨y, rfl, hy, hC2, hG2⟩
 have HD0 := hid (HDX.out.draw hC2 hG2)
 clear hC2 hG2 HDX HDY
 go_wp2_with fail
 go_loopw [5, 6] (fun v x wr => ∃ (k : Nat) (l : List At), x = .int .i64 (k : Int) /\ k <= 2 /\ l.length + k <= 4 /\ Hid (DSt w0 a len cap b w wr v l)) (fun _ x _ => (intOf x).toNat)
 case atStart => exact ⟨y, lz, rfl, by omega, by omega, HD0.out⟩
 case round =>
  clear HD0
  obtain ⟨k, l, rfl, hk, hlk, HD⟩ := hrel
  by_cases h0 : k = 0
  ·subst h0
   obtain ⟨a5, c5, hv5, _⟩ := HD.out.row
   subst hv5
   go_wp2_with fail
   go_ret
   exact ⟨a5, c5, l, rfl, by omega, HD.out⟩
  ·have hkp : (0 : Int) < (k : Int) := by omega
   obtain ⟨v, hv⟩ : ∃ v, v = v := ⟨u5, rfl⟩
   clear hv v
   generalize u5 = v at *
   go_upto_region 7 with fail
   go_cut [7] from 27 to 72 (fun x wv => ∃ (bx : Nat) (tA tC : ByteArray), x = .pointer (some ⟨bx, 0, none⟩) /\ Hid (wv.heap[bx]? = some (.cells #[.string tA, .string tC] 67 (0, 0)) /\ (w.heap.size <= bx /\ ¬ v.ownBlock = some bx) /\ tA.size <= 7 /\ tC.size <= 4 /\ DSt w0 a len cap b w wv v l))
   case first =>
    refine wp_region_held_drew (S := fun _ => True) (by kernel_rfl) trivial (fun _ => ?_)
    replace HD := hid (show DSt w0 a len cap b w wr.drew v l from HD.out.drewN 1)
    generalize wr.drew = W at *
    refine wpAnyH_take (i := 1) (v := ?_) rfl (by kernel_rfl) (by kernel_rfl) (by kernel_rfl) (fun _ _ _ h => h) (Or.inl ⟨by rfl, ?_⟩) trivial ?_
    rotate_left
    ·intro w hSw
     go_simp
     try (with_reducible rfl)
    try simp only [Act.put, List.setIfInBounds_toArray, List.set_cons_zero, List.set_cons_succ]
    refine wpAnyH_take (i := 5) (v := ?_) rfl (by kernel_rfl) (by kernel_rfl) (by kernel_rfl) (fun _ _ _ h => h) (Or.inl ⟨by rfl, ?_⟩) trivial ?_
    rotate_left
    ·intro w hSw
     go_simp
     try (with_reducible rfl)
    try simp only [Act.put, List.setIfInBounds_toArray, List.set_cons_zero, List.set_cons_succ]
    refine wpAnyH_ready (rs := [0, 2, 8]) (by kernel_rfl) (by simp) (AllReadyH.cons rfl (fun K hK => ?_) (AllReadyH.cons rfl (fun K hK => ?_) (AllReadyH.cons rfl (fun K hK => ?_) AllReadyH.nil)))
    ·have HTB := hid (show ¬ W.heap.size = b by have := HD.out.gr.size; have := HD.out.lt; omega)
     go_simp
     refine hK.out _ _ trivial (fun _ => ?_)
     clear hK K
     try simp only [Act.put, List.setIfInBounds_toArray, List.set_cons_zero, List.set_cons_succ]
     have HT := hid (heap_alloc_new W (.cells #[.string ⟨#[97]⟩, .string ⟨#[120]⟩, .string ⟨#[112, 58, 97]⟩, .string ⟨#[113, 58, 97]⟩, .string ⟨#[112, 58, 120]⟩, .string ⟨#[110, 115]⟩, .string ⟨#[110, 115, 58, 112]⟩, .string ⟨#[73, 100]⟩] 9))
     replace HD := hid (HD.out.alloc (.cells #[.string ⟨#[97]⟩, .string ⟨#[120]⟩, .string ⟨#[112, 58, 97]⟩, .string ⟨#[113, 58, 97]⟩, .string ⟨#[112, 58, 120]⟩, .string ⟨#[110, 115]⟩, .string ⟨#[110, 115, 58, 112]⟩, .string ⟨#[73, 100]⟩] 9))
     generalize W.heap.size = tb at *
     generalize W.alloc (.cells #[.string ⟨#[97]⟩, .string ⟨#[120]⟩, .string ⟨#[112, 58, 97]⟩, .string ⟨#[113, 58, 97]⟩, .string ⟨#[112, 58, 120]⟩, .string ⟨#[110, 115]⟩, .string ⟨#[110, 115, 58, 112]⟩, .string ⟨#[73, 100]⟩] 9) = W at *
     refine wpAnyH_ready (rs := [2, 8]) (by kernel_rfl) (by simp) (AllReadyH.cons rfl (fun K hK => ?_) (AllReadyH.cons rfl (fun K hK => ?_) AllReadyH.nil))
     ·go_simp
      refine (cBelow 8 w0 a len cap b _ hlen HR.out HD.out.cur (by omega) (by omega)).mono ?_
      rintro e W2 ⟨x, rfl, hx, hC, hG⟩
      replace HT := hid ((hG.block tb (lt_of_heap HT.out) (fun e => HTB.out (Option.some.inj e))).trans HT.out)
      replace HD := hid (HD.out.draw hC hG)
      have hx8 : (x : Int) < 8 := by omega
      clear hC hG
      go_wp2_with fail
      refine hK.out _ _ trivial (fun _ => ?_)
      clear hK K
      try simp only [Act.put, List.setIfInBounds_toArray, List.set_cons_zero, List.set_cons_succ]
      generalize W2 = W at *
      refine wpAnyH_take (i := 3) (v := ?_) rfl (by kernel_rfl) (by kernel_rfl) (by kernel_rfl) (fun _ _ _ h => h) (Or.inl ⟨by rfl, ?_⟩) trivial ?_
      rotate_left
      ·intro w hSw
       go_simp
       try (with_reducible rfl)
      try simp only [Act.put, List.setIfInBounds_toArray, List.set_cons_zero, List.set_cons_succ]
      refine wpAnyH_ready (rs := [4, 6, 8]) (by kernel_rfl) (by simp) (AllReadyH.cons rfl (fun K hK => ?_) (AllReadyH.cons rfl (fun K hK => ?_) (AllReadyH.cons rfl (fun K hK => ?_) AllReadyH.nil)))
      ·obtain ⟨tA, hcA, htA⟩ := tabA_at _ tb x hx HT.out
       go_simp
       refine hK.out _ _ trivial (fun _ => ?_)
       clear hK K
       try simp only [Act.put, List.setIfInBounds_toArray, List.set_cons_zero, List.set_cons_succ]
       clear hcA
       refine wpAnyH_ready (rs := [6, 8]) (by kernel_rfl) (by simp) (AllReadyH.cons rfl (fun K hK => ?_) (AllReadyH.cons rfl (fun K hK => ?_) AllReadyH.nil))
       ·go_simp
        refine (cText ⟨#[97, 98, 60, 38, 34, 62, 32, 49]⟩ 4 w0 a len cap b _ (by omega) (by omega) (by decide) (by decide) hlen HR.out HD.out.cur).mono ?_
        rintro e W3 ⟨tC, rfl, htC, hC, hG⟩
        replace HT := hid ((hG.block tb (lt_of_heap HT.out) (fun e => HTB.out (Option.some.inj e))).trans HT.out)
        replace HD := hid (HD.out.draw hC hG)
        clear hC hG
        go_wp2_with fail
        refine hK.out _ _ trivial (fun _ => ?_)
        clear hK K
        try simp only [Act.put, List.setIfInBounds_toArray, List.set_cons_zero, List.set_cons_succ]
        generalize W3 = W at *
        refine wpAnyH_take (i := 7) (v := ?_) rfl (by kernel_rfl) (by kernel_rfl) (by kernel_rfl) (fun _ _ _ h => h) (Or.inl ⟨by rfl, ?_⟩) trivial ?_
        rotate_left
        ·intro w hSw
         go_simp
         try (with_reducible rfl)
        try simp only [Act.put, List.setIfInBounds_toArray, List.set_cons_zero, List.set_cons_succ]
        refine wpAnyH_ready (rs := [8]) (by kernel_rfl) (by simp) (AllReadyH.cons rfl (fun K hK => ?_) AllReadyH.nil)
        ·have HXB := hid (show w.heap.size <= W.heap.size /\ ¬ v.ownBlock = some W.heap.size from ⟨HD.out.gr.size, fun e => by have := (HD.out.own.lt _ e).2; omega⟩)
         go_simp
         refine hK.out _ _ trivial (fun _ => ?_)
         clear hK K
         try simp only [Act.put, List.setIfInBounds_toArray, List.set_cons_zero, List.set_cons_succ]
         have HX := hid (heap_alloc_new W (.cells #[.string ⟨#[]⟩, .string ⟨#[]⟩] 67))
         replace HD := hid (HD.out.alloc (.cells #[.string ⟨#[]⟩, .string ⟨#[]⟩] 67))
         replace HT := hid (blk_alloc HT.out (.cells #[.string ⟨#[]⟩, .string ⟨#[]⟩] 67))
         generalize W.heap.size = bx at *
         generalize W.alloc (.cells #[.string ⟨#[]⟩, .string ⟨#[]⟩] 67) = W at *
         refine wpAnyH_ready (rs := [9]) (by kernel_rfl) (by simp) (AllReadyH.cons rfl (fun K hK => ?_) AllReadyH.nil)
         ·obtain ⟨⟨e0, e1⟩, f0, f1⟩ := box2e HX.out
          go_simp
          refine hK.out _ _ trivial (fun _ => ?_)
          clear hK K
          try simp only [Act.put, List.setIfInBounds_toArray, List.set_cons_zero, List.set_cons_succ]
          refine wpAnyH_done (by kernel_rfl) ?_ _
          go_wp2_with fail
          go_meet
          exact ⟨bx, tA, tC, rfl, ⟨box_set2 HX.out, HXB.out, htA, Nat.le_of_lt htC, (HD.out.set HXB.out.1 HXB.out.2 0 _).set HXB.out.1 HXB.out.2 1 _⟩⟩
       ·have HXB := hid (show w.heap.size <= W.heap.size /\ ¬ v.ownBlock = some W.heap.size from ⟨HD.out.gr.size, fun e => by have := (HD.out.own.lt _ e).2; omega⟩)
        go_simp
        refine hK.out _ _ trivial (fun _ => ?_)
        clear hK K
        try simp only [Act.put, List.setIfInBounds_toArray, List.set_cons_zero, List.set_cons_succ]
        have HX := hid (heap_alloc_new W (.cells #[.string ⟨#[]⟩, .string ⟨#[]⟩] 67))
        replace HD := hid (HD.out.alloc (.cells #[.string ⟨#[]⟩, .string ⟨#[]⟩] 67))
        replace HT := hid (blk_alloc HT.out (.cells #[.string ⟨#[]⟩, .string ⟨#[]⟩] 67))
        generalize W.heap.size = bx at *
        generalize W.alloc (.cells #[.string ⟨#[]⟩, .string ⟨#[]⟩] 67) = W at *
        refine wpAnyH_ready (rs := [6]) (by kernel_rfl) (by simp) (AllReadyH.cons rfl (fun K hK => ?_) AllReadyH.nil)
        ·go_simp
         refine (cText ⟨#[97, 98, 60, 38, 34, 62, 32, 49]⟩ 4 w0 a len cap b _ (by omega) (by omega) (by decide) (by decide) hlen HR.out HD.out.cur).mono ?_
         rintro e W3 ⟨tC, rfl, htC, hC, hG⟩
         replace HT := hid ((hG.block tb (lt_of_heap HT.out) (fun e => HTB.out (Option.some.inj e))).trans HT.out)
         replace HX := hid ((hG.block bx (lt_of_heap HX.out) (fun e => by have := HXB.out.1; have := HD.out.lt; have := Option.some.inj e; omega)).trans HX.out)
         replace HD := hid (HD.out.draw hC hG)
         clear hC hG
         go_wp2_with fail
         refine hK.out _ _ trivial (fun _ => ?_)
         clear hK K
         try simp only [Act.put, List.setIfInBounds_toArray, List.set_cons_zero, List.set_cons_succ]
         generalize W3 = W at *
         refine wpAnyH_take (i := 7) (v := ?_) rfl (by kernel_rfl) (by kernel_rfl) (by kernel_rfl) (fun _ _ _ h => h) (Or.inl ⟨by rfl, ?_⟩) trivial ?_
         rotate_left
         ·intro w hSw
          go_simp
          try (with_reducible rfl)
         try simp only [Act.put, List.setIfInBounds_toArray, List.set_cons_zero, List.set_cons_succ]
         refine wpAnyH_ready (rs := [9]) (by kernel_rfl) (by simp) (AllReadyH.cons rfl (fun K hK => ?_) AllReadyH.nil)
         ·obtain ⟨⟨e0, e1⟩, f0, f1⟩ := box2e HX.out
          go_simp
          refine hK.out _ _ trivial (fun _ => ?_)
          clear hK K
          try simp only [Act.put, List.setIfInBounds_toArray, List.set_cons_zero, List.set_cons_succ]
          refine wpAnyH_done (by kernel_rfl) ?_ _
          go_wp2_with fail
          go_meet
          exact ⟨bx, tA, tC, rfl, ⟨box_set2 HX.out, HXB.out, htA, Nat.le_of_lt htC, (HD.out.set HXB.out.1 HXB.out.2 0 _).set HXB.out.1 HXB.out.2 1 _⟩⟩
      ·go_simp
       refine (cText ⟨#[97, 98, 60, 38, 34, 62, 32, 49]⟩ 4 w0 a len cap b _ (by omega) (by omega) (by decide) (by decide) hlen HR.out HD.out.cur).mono ?_
       rintro e W3 ⟨tC, rfl, htC, hC, hG⟩
       replace HT := hid ((hG.block tb (lt_of_heap HT.out) (fun e => HTB.out (Option.some.inj e))).trans HT.out)
       replace HD := hid (HD.out.draw hC hG)
       clear hC hG
       go_wp2_with fail
       refine hK.out _ _ trivial (fun _ => ?_)
       clear hK K
       try simp only [Act.put, List.setIfInBounds_toArray, List.set_cons_zero, List.set_cons_succ]
       generalize W3 = W at *
       refine wpAnyH_ready (rs := [4, 8]) (by kernel_rfl) (by simp) (AllReadyH.cons rfl (fun K hK => ?_) (AllReadyH.cons rfl (fun K hK => ?_) AllReadyH.nil))
       ·obtain ⟨tA, hcA, htA⟩ := tabA_at _ tb x hx HT.out
        go_simp
        refine hK.out _ _ trivial (fun _ => ?_)
        clear hK K
        try simp only [Act.put, List.setIfInBounds_toArray, List.set_cons_zero, List.set_cons_succ]
        clear hcA
        refine wpAnyH_take (i := 7) (v := ?_) rfl (by kernel_rfl) (by kernel_rfl) (by kernel_rfl) (fun _ _ _ h => h) (Or.inl ⟨by rfl, ?_⟩) trivial ?_
        rotate_left
        ·intro w hSw
         go_simp
         try (with_reducible rfl)
        try simp only [Act.put, List.setIfInBounds_toArray, List.set_cons_zero, List.set_cons_succ]
        refine wpAnyH_ready (rs := [8]) (by kernel_rfl) (by simp) (AllReadyH.cons rfl (fun K hK => ?_) AllReadyH.nil)
        ·have HXB := hid (show w.heap.size <= W.heap.size /\ ¬ v.ownBlock = some W.heap.size from ⟨HD.out.gr.size, fun e => by have := (HD.out.own.lt _ e).2; omega⟩)
         go_simp
         refine hK.out _ _ trivial (fun _ => ?_)
         clear hK K
         try simp only [Act.put, List.setIfInBounds_toArray, List.set_cons_zero, List.set_cons_succ]
         have HX := hid (heap_alloc_new W (.cells #[.string ⟨#[]⟩, .string ⟨#[]⟩] 67))
         replace HD := hid (HD.out.alloc (.cells #[.string ⟨#[]⟩, .string ⟨#[]⟩] 67))
         replace HT := hid (blk_alloc HT.out (.cells #[.string ⟨#[]⟩, .string ⟨#[]⟩] 67))
         generalize W.heap.size = bx at *
         generalize W.alloc (.cells #[.string ⟨#[]⟩, .string ⟨#[]⟩] 67) = W at *
         refine wpAnyH_ready (rs := [9]) (by kernel_rfl) (by simp) (AllReadyH.cons rfl (fun K hK => ?_) AllReadyH.nil)
         ·obtain ⟨⟨e0, e1⟩, f0, f1⟩ := box2e HX.out
          go_simp
          refine hK.out _ _ trivial (fun _ => ?_)
          clear hK K
          try simp only [Act.put, List.setIfInBounds_toArray, List.set_cons_zero, List.set_cons_succ]
          refine wpAnyH_done (by kernel_rfl) ?_ _
          go_wp2_with fail
          go_meet
          exact ⟨bx, tA, tC, rfl, ⟨box_set2 HX.out, HXB.out, htA, Nat.le_of_lt htC, (HD.out.set HXB.out.1 HXB.out.2 0 _).set HXB.out.1 HXB.out.2 1 _⟩⟩
       ·have HXB := hid (show w.heap.size <= W.heap.size /\ ¬ v.ownBlock = some W.heap.size from ⟨HD.out.gr.size, fun e => by have := (HD.out.own.lt _ e).2; omega⟩)
        go_simp
        refine hK.out _ _ trivial (fun _ => ?_)
        clear hK K
        try simp only [Act.put, List.setIfInBounds_toArray, List.set_cons_zero, List.set_cons_succ]
        have HX := hid (heap_alloc_new W (.cells #[.string ⟨#[]⟩, .string ⟨#[]⟩] 67))
        replace HD := hid (HD.out.alloc (.cells #[.string ⟨#[]⟩, .string ⟨#[]⟩] 67))
        replace HT := hid (blk_alloc HT.out (.cells #[.string ⟨#[]⟩, .string ⟨#[]⟩] 67))
        generalize W.heap.size = bx at *
        generalize W.alloc (.cells #[.string ⟨#[]⟩, .string ⟨#[]⟩] 67) = W at *
        refine wpAnyH_ready (rs := [4]) (by kernel_rfl) (by simp) (AllReadyH.cons rfl (fun K hK => ?_) AllReadyH.nil)
        ·obtain ⟨tA, hcA, htA⟩ := tabA_at _ tb x hx HT.out
         go_simp
         refine hK.out _ _ trivial (fun _ => ?_)
         clear hK K
         try simp only [Act.put, List.setIfInBounds_toArray, List.set_cons_zero, List.set_cons_succ]
         clear hcA
         refine wpAnyH_take (i := 7) (v := ?_) rfl (by kernel_rfl) (by kernel_rfl) (by kernel_rfl) (fun _ _ _ h => h) (Or.inl ⟨by rfl, ?_⟩) trivial ?_
         rotate_left
         ·intro w hSw
          go_simp
          try (with_reducible rfl)
         try simp only [Act.put, List.setIfInBounds_toArray, List.set_cons_zero, List.set_cons_succ]
         refine wpAnyH_ready (rs := [9]) (by kernel_rfl) (by simp) (AllReadyH.cons rfl (fun K hK => ?_) AllReadyH.nil)
         ·obtain ⟨⟨e0, e1⟩, f0, f1⟩ := box2e HX.out
          go_simp
          refine hK.out _ _ trivial (fun _ => ?_)
          clear hK K
          try simp only [Act.put, List.setIfInBounds_toArray, List.set_cons_zero, List.set_cons_succ]
          refine wpAnyH_done (by kernel_rfl) ?_ _
          go_wp2_with fail
          go_meet
          exact ⟨bx, tA, tC, rfl, ⟨box_set2 HX.out, HXB.out, htA, Nat.le_of_lt htC, (HD.out.set HXB.out.1 HXB.out.2 0 _).set HXB.out.1 HXB.out.2 1 _⟩⟩
      ·have HXB := hid (show w.heap.size <= W.heap.size /\ ¬ v.ownBlock = some W.heap.size from ⟨HD.out.gr.size, fun e => by have := (HD.out.own.lt _ e).2; omega⟩)
       go_simp
       refine hK.out _ _ trivial (fun _ => ?_)
       clear hK K
       try simp only [Act.put, List.setIfInBounds_toArray, List.set_cons_zero, List.set_cons_succ]
       have HX := hid (heap_alloc_new W (.cells #[.string ⟨#[]⟩, .string ⟨#[]⟩] 67))
       replace HD := hid (HD.out.alloc (.cells #[.string ⟨#[]⟩, .string ⟨#[]⟩] 67))
       replace HT := hid (blk_alloc HT.out (.cells #[.string ⟨#[]⟩, .string ⟨#[]⟩] 67))
       generalize W.heap.size = bx at *
       generalize W.alloc (.cells #[.string ⟨#[]⟩, .string ⟨#[]⟩] 67) = W at *
       refine wpAnyH_ready (rs := [4, 6]) (by kernel_rfl) (by simp) (AllReadyH.cons rfl (fun K hK => ?_) (AllReadyH.cons rfl (fun K hK => ?_) AllReadyH.nil))
       ·obtain ⟨tA, hcA, htA⟩ := tabA_at _ tb x hx HT.out
        go_simp
        refine hK.out _ _ trivial (fun _ => ?_)
        clear hK K
        try simp only [Act.put, List.setIfInBounds_toArray, List.set_cons_zero, List.set_cons_succ]
        clear hcA
        refine wpAnyH_ready (rs := [6]) (by kernel_rfl) (by simp) (AllReadyH.cons rfl (fun K hK => ?_) AllReadyH.nil)
        ·go_simp
         refine (cText ⟨#[97, 98, 60, 38, 34, 62, 32, 49]⟩ 4 w0 a len cap b _ (by omega) (by omega) (by decide) (by decide) hlen HR.out HD.out.cur).mono ?_
         rintro e W3 ⟨tC, rfl, htC, hC, hG⟩
         replace HT := hid ((hG.block tb (lt_of_heap HT.out) (fun e => HTB.out (Option.some.inj e))).trans HT.out)
         replace HX := hid ((hG.block bx (lt_of_heap HX.out) (fun e => by have := HXB.out.1; have := HD.out.lt; have := Option.some.inj e; omega)).trans HX.out)
         replace HD := hid (HD.out.draw hC hG)
         clear hC hG
         go_wp2_with fail
         refine hK.out _ _ trivial (fun _ => ?_)
         clear hK K
         try simp only [Act.put, List.setIfInBounds_toArray, List.set_cons_zero, List.set_cons_succ]
         generalize W3 = W at *
         refine wpAnyH_take (i := 7) (v := ?_) rfl (by kernel_rfl) (by kernel_rfl) (by kernel_rfl) (fun _ _ _ h => h) (Or.inl ⟨by rfl, ?_⟩) trivial ?_
         rotate_left
         ·intro w hSw
          go_simp
          try (with_reducible rfl)
         try simp only [Act.put, List.setIfInBounds_toArray, List.set_cons_zero, List.set_cons_succ]
         refine wpAnyH_ready (rs := [9]) (by kernel_rfl) (by simp) (AllReadyH.cons rfl (fun K hK => ?_) AllReadyH.nil)
         ·obtain ⟨⟨e0, e1⟩, f0, f1⟩ := box2e HX.out
          go_simp
          refine hK.out _ _ trivial (fun _ => ?_)
          clear hK K
          try simp only [Act.put, List.setIfInBounds_toArray, List.set_cons_zero, List.set_cons_succ]
          refine wpAnyH_done (by kernel_rfl) ?_ _
          go_wp2_with fail
          go_meet
          exact ⟨bx, tA, tC, rfl, ⟨box_set2 HX.out, HXB.out, htA, Nat.le_of_lt htC, (HD.out.set HXB.out.1 HXB.out.2 0 _).set HXB.out.1 HXB.out.2 1 _⟩⟩
       ·go_simp
        refine (cText ⟨#[97, 98, 60, 38, 34, 62, 32, 49]⟩ 4 w0 a len cap b _ (by omega) (by omega) (by decide) (by decide) hlen HR.out HD.out.cur).mono ?_
        rintro e W3 ⟨tC, rfl, htC, hC, hG⟩
        replace HT := hid ((hG.block tb (lt_of_heap HT.out) (fun e => HTB.out (Option.some.inj e))).trans HT.out)
        replace HX := hid ((hG.block bx (lt_of_heap HX.out) (fun e => by have := HXB.out.1; have := HD.out.lt; have := Option.some.inj e; omega)).trans HX.out)
        replace HD := hid (HD.out.draw hC hG)
        clear hC hG
        go_wp2_with fail
        refine hK.out _ _ trivial (fun _ => ?_)
        clear hK K
        try simp only [Act.put, List.setIfInBounds_toArray, List.set_cons_zero, List.set_cons_succ]
        generalize W3 = W at *
        refine wpAnyH_ready (rs := [4]) (by kernel_rfl) (by simp) (AllReadyH.cons rfl (fun K hK => ?_) AllReadyH.nil)
        ·obtain ⟨tA, hcA, htA⟩ := tabA_at _ tb x hx HT.out
         go_simp
         refine hK.out _ _ trivial (fun _ => ?_)
         clear hK K
         try simp only [Act.put, List.setIfInBounds_toArray, List.set_cons_zero, List.set_cons_succ]
         clear hcA
         refine wpAnyH_take (i := 7) (v := ?_) rfl (by kernel_rfl) (by kernel_rfl) (by kernel_rfl) (fun _ _ _ h => h) (Or.inl ⟨by rfl, ?_⟩) trivial ?_
         rotate_left
         ·intro w hSw
          go_simp
          try (with_reducible rfl)
         try simp only [Act.put, List.setIfInBounds_toArray, List.set_cons_zero, List.set_cons_succ]
         refine wpAnyH_ready (rs := [9]) (by kernel_rfl) (by simp) (AllReadyH.cons rfl (fun K hK => ?_) AllReadyH.nil)
         ·obtain ⟨⟨e0, e1⟩, f0, f1⟩ := box2e HX.out
          go_simp
          refine hK.out _ _ trivial (fun _ => ?_)
          clear hK K
          try simp only [Act.put, List.setIfInBounds_toArray, List.set_cons_zero, List.set_cons_succ]
          refine wpAnyH_done (by kernel_rfl) ?_ _
          go_wp2_with fail
          go_meet
          exact ⟨bx, tA, tC, rfl, ⟨box_set2 HX.out, HXB.out, htA, Nat.le_of_lt htC, (HD.out.set HXB.out.1 HXB.out.2 0 _).set HXB.out.1 HXB.out.2 1 _⟩⟩
     ·have HXB := hid (show w.heap.size <= W.heap.size /\ ¬ v.ownBlock = some W.heap.size from ⟨HD.out.gr.size, fun e => by have := (HD.out.own.lt _ e).2; omega⟩)
      go_simp
      refine hK.out _ _ trivial (fun _ => ?_)
      clear hK K
      try simp only [Act.put, List.setIfInBounds_toArray, List.set_cons_zero, List.set_cons_succ]
      have HX := hid (heap_alloc_new W (.cells #[.string ⟨#[]⟩, .string ⟨#[]⟩] 67))
      replace HD := hid (HD.out.alloc (.cells #[.string ⟨#[]⟩, .string ⟨#[]⟩] 67))
      replace HT := hid (blk_alloc HT.out (.cells #[.string ⟨#[]⟩, .string ⟨#[]⟩] 67))
      generalize W.heap.size = bx at *
      generalize W.alloc (.cells #[.string ⟨#[]⟩, .string ⟨#[]⟩] 67) = W at *
      refine wpAnyH_ready (rs := [2]) (by kernel_rfl) (by simp) (AllReadyH.cons rfl (fun K hK => ?_) AllReadyH.nil)
      ·go_simp
       refine (cBelow 8 w0 a len cap b _ hlen HR.out HD.out.cur (by omega) (by omega)).mono ?_
       rintro e W2 ⟨x, rfl, hx, hC, hG⟩
       replace HT := hid ((hG.block tb (lt_of_heap HT.out) (fun e => HTB.out (Option.some.inj e))).trans HT.out)
       replace HX := hid ((hG.block bx (lt_of_heap HX.out) (fun e => by have := HXB.out.1; have := HD.out.lt; have := Option.some.inj e; omega)).trans HX.out)
       replace HD := hid (HD.out.draw hC hG)
       have hx8 : (x : Int) < 8 := by omega
       clear hC hG
       go_wp2_with fail
       refine hK.out _ _ trivial (fun _ => ?_)
       clear hK K
       try simp only [Act.put, List.setIfInBounds_toArray, List.set_cons_zero, List.set_cons_succ]
       generalize W2 = W at *
       refine wpAnyH_take (i := 3) (v := ?_) rfl (by kernel_rfl) (by kernel_rfl) (by kernel_rfl) (fun _ _ _ h => h) (Or.inl ⟨by rfl, ?_⟩) trivial ?_
       rotate_left
       ·intro w hSw
        go_simp
        try (with_reducible rfl)
       try simp only [Act.put, List.setIfInBounds_toArray, List.set_cons_zero, List.set_cons_succ]
       refine wpAnyH_ready (rs := [4, 6]) (by kernel_rfl) (by simp) (AllReadyH.cons rfl (fun K hK => ?_) (AllReadyH.cons rfl (fun K hK => ?_) AllReadyH.nil))
       ·obtain ⟨tA, hcA, htA⟩ := tabA_at _ tb x hx HT.out
        go_simp
        refine hK.out _ _ trivial (fun _ => ?_)
        clear hK K
        try simp only [Act.put, List.setIfInBounds_toArray, List.set_cons_zero, List.set_cons_succ]
        clear hcA
        refine wpAnyH_ready (rs := [6]) (by kernel_rfl) (by simp) (AllReadyH.cons rfl (fun K hK => ?_) AllReadyH.nil)
        ·go_simp
         refine (cText ⟨#[97, 98, 60, 38, 34, 62, 32, 49]⟩ 4 w0 a len cap b _ (by omega) (by omega) (by decide) (by decide) hlen HR.out HD.out.cur).mono ?_
         rintro e W3 ⟨tC, rfl, htC, hC, hG⟩
         replace HT := hid ((hG.block tb (lt_of_heap HT.out) (fun e => HTB.out (Option.some.inj e))).trans HT.out)
         replace HX := hid ((hG.block bx (lt_of_heap HX.out) (fun e => by have := HXB.out.1; have := HD.out.lt; have := Option.some.inj e; omega)).trans HX.out)
         replace HD := hid (HD.out.draw hC hG)
         clear hC hG
         go_wp2_with fail
         refine hK.out _ _ trivial (fun _ => ?_)
         clear hK K
         try simp only [Act.put, List.setIfInBounds_toArray, List.set_cons_zero, List.set_cons_succ]
         generalize W3 = W at *
         refine wpAnyH_take (i := 7) (v := ?_) rfl (by kernel_rfl) (by kernel_rfl) (by kernel_rfl) (fun _ _ _ h => h) (Or.inl ⟨by rfl, ?_⟩) trivial ?_
         rotate_left
         ·intro w hSw
          go_simp
          try (with_reducible rfl)
         try simp only [Act.put, List.setIfInBounds_toArray, List.set_cons_zero, List.set_cons_succ]
         refine wpAnyH_ready (rs := [9]) (by kernel_rfl) (by simp) (AllReadyH.cons rfl (fun K hK => ?_) AllReadyH.nil)
         ·obtain ⟨⟨e0, e1⟩, f0, f1⟩ := box2e HX.out
          go_simp
          refine hK.out _ _ trivial (fun _ => ?_)
          clear hK K
          try simp only [Act.put, List.setIfInBounds_toArray, List.set_cons_zero, List.set_cons_succ]
          refine wpAnyH_done (by kernel_rfl) ?_ _
          go_wp2_with fail
          go_meet
          exact ⟨bx, tA, tC, rfl, ⟨box_set2 HX.out, HXB.out, htA, Nat.le_of_lt htC, (HD.out.set HXB.out.1 HXB.out.2 0 _).set HXB.out.1 HXB.out.2 1 _⟩⟩
       ·go_simp
        refine (cText ⟨#[97, 98, 60, 38, 34, 62, 32, 49]⟩ 4 w0 a len cap b _ (by omega) (by omega) (by decide) (by decide) hlen HR.out HD.out.cur).mono ?_
        rintro e W3 ⟨tC, rfl, htC, hC, hG⟩
        replace HT := hid ((hG.block tb (lt_of_heap HT.out) (fun e => HTB.out (Option.some.inj e))).trans HT.out)
        replace HX := hid ((hG.block bx (lt_of_heap HX.out) (fun e => by have := HXB.out.1; have := HD.out.lt; have := Option.some.inj e; omega)).trans HX.out)
        replace HD := hid (HD.out.draw hC hG)
        clear hC hG
        go_wp2_with fail
        refine hK.out _ _ trivial (fun _ => ?_)
        clear hK K
        try simp only [Act.put, List.setIfInBounds_toArray, List.set_cons_zero, List.set_cons_succ]
        generalize W3 = W at *
        refine wpAnyH_ready (rs := [4]) (by kernel_rfl) (by simp) (AllReadyH.cons rfl (fun K hK => ?_) AllReadyH.nil)
        ·obtain ⟨tA, hcA, htA⟩ := tabA_at _ tb x hx HT.out
         go_simp
         refine hK.out _ _ trivial (fun _ => ?_)
         clear hK K
         try simp only [Act.put, List.setIfInBounds_toArray, List.set_cons_zero, List.set_cons_succ]
         clear hcA
         refine wpAnyH_take (i := 7) (v := ?_) rfl (by kernel_rfl) (by kernel_rfl) (by kernel_rfl) (fun _ _ _ h => h) (Or.inl ⟨by rfl, ?_⟩) trivial ?_
         rotate_left
         ·intro w hSw
          go_simp
          try (with_reducible rfl)
         try simp only [Act.put, List.setIfInBounds_toArray, List.set_cons_zero, List.set_cons_succ]
         refine wpAnyH_ready (rs := [9]) (by kernel_rfl) (by simp) (AllReadyH.cons rfl (fun K hK => ?_) AllReadyH.nil)
         ·obtain ⟨⟨e0, e1⟩, f0, f1⟩ := box2e HX.out
          go_simp
          refine hK.out _ _ trivial (fun _ => ?_)
          clear hK K
          try simp only [Act.put, List.setIfInBounds_toArray, List.set_cons_zero, List.set_cons_succ]
          refine wpAnyH_done (by kernel_rfl) ?_ _
          go_wp2_with fail
          go_meet
          exact ⟨bx, tA, tC, rfl, ⟨box_set2 HX.out, HXB.out, htA, Nat.le_of_lt htC, (HD.out.set HXB.out.1 HXB.out.2 0 _).set HXB.out.1 HXB.out.2 1 _⟩⟩
    ·go_simp
     refine (cBelow 8 w0 a len cap b _ hlen HR.out HD.out.cur (by omega) (by omega)).mono ?_
     rintro e W2 ⟨x, rfl, hx, hC, hG⟩
     replace HD := hid (HD.out.draw hC hG)
     have hx8 : (x : Int) < 8 := by omega
     clear hC hG
     go_wp2_with fail
     refine hK.out _ _ trivial (fun _ => ?_)
     clear hK K
     try simp only [Act.put, List.setIfInBounds_toArray, List.set_cons_zero, List.set_cons_succ]
     generalize W2 = W at *
     refine wpAnyH_ready (rs := [0, 6, 8]) (by kernel_rfl) (by simp) (AllReadyH.cons rfl (fun K hK => ?_) (AllReadyH.cons rfl (fun K hK => ?_) (AllReadyH.cons rfl (fun K hK => ?_) AllReadyH.nil)))
     ·have HTB := hid (show ¬ W.heap.size = b by have := HD.out.gr.size; have := HD.out.lt; omega)
      go_simp
      refine hK.out _ _ trivial (fun _ => ?_)
      clear hK K
      try simp only [Act.put, List.setIfInBounds_toArray, List.set_cons_zero, List.set_cons_succ]
      have HT := hid (heap_alloc_new W (.cells #[.string ⟨#[97]⟩, .string ⟨#[120]⟩, .string ⟨#[112, 58, 97]⟩, .string ⟨#[113, 58, 97]⟩, .string ⟨#[112, 58, 120]⟩, .string ⟨#[110, 115]⟩, .string ⟨#[110, 115, 58, 112]⟩, .string ⟨#[73, 100]⟩] 9))
      replace HD := hid (HD.out.alloc (.cells #[.string ⟨#[97]⟩, .string ⟨#[120]⟩, .string ⟨#[112, 58, 97]⟩, .string ⟨#[113, 58, 97]⟩, .string ⟨#[112, 58, 120]⟩, .string ⟨#[110, 115]⟩, .string ⟨#[110, 115, 58, 112]⟩, .string ⟨#[73, 100]⟩] 9))
      generalize W.heap.size = tb at *
      generalize W.alloc (.cells #[.string ⟨#[97]⟩, .string ⟨#[120]⟩, .string ⟨#[112, 58, 97]⟩, .string ⟨#[113, 58, 97]⟩, .string ⟨#[112, 58, 120]⟩, .string ⟨#[110, 115]⟩, .string ⟨#[110, 115, 58, 112]⟩, .string ⟨#[73, 100]⟩] 9) = W at *
      refine wpAnyH_take (i := 3) (v := ?_) rfl (by kernel_rfl) (by kernel_rfl) (by kernel_rfl) (fun _ _ _ h => h) (Or.inl ⟨by rfl, ?_⟩) trivial ?_
      rotate_left
      ·intro w hSw
       go_simp
       try (with_reducible rfl)
      try simp only [Act.put, List.setIfInBounds_toArray, List.set_cons_zero, List.set_cons_succ]
      refine wpAnyH_ready (rs := [4, 6, 8]) (by kernel_rfl) (by simp) (AllReadyH.cons rfl (fun K hK => ?_) (AllReadyH.cons rfl (fun K hK => ?_) (AllReadyH.cons rfl (fun K hK => ?_) AllReadyH.nil)))
      ·obtain ⟨tA, hcA, htA⟩ := tabA_at _ tb x hx HT.out
       go_simp
       refine hK.out _ _ trivial (fun _ => ?_)
       clear hK K
       try simp only [Act.put, List.setIfInBounds_toArray, List.set_cons_zero, List.set_cons_succ]
       clear hcA
       refine wpAnyH_ready (rs := [6, 8]) (by kernel_rfl) (by simp) (AllReadyH.cons rfl (fun K hK => ?_) (AllReadyH.cons rfl (fun K hK => ?_) AllReadyH.nil))
       ·go_simp
        refine (cText ⟨#[97, 98, 60, 38, 34, 62, 32, 49]⟩ 4 w0 a len cap b _ (by omega) (by omega) (by decide) (by decide) hlen HR.out HD.out.cur).mono ?_
        rintro e W3 ⟨tC, rfl, htC, hC, hG⟩
        replace HT := hid ((hG.block tb (lt_of_heap HT.out) (fun e => HTB.out (Option.some.inj e))).trans HT.out)
        replace HD := hid (HD.out.draw hC hG)
        clear hC hG
        go_wp2_with fail
        refine hK.out _ _ trivial (fun _ => ?_)
        clear hK K
        try simp only [Act.put, List.setIfInBounds_toArray, List.set_cons_zero, List.set_cons_succ]
        generalize W3 = W at *
        refine wpAnyH_take (i := 7) (v := ?_) rfl (by kernel_rfl) (by kernel_rfl) (by kernel_rfl) (fun _ _ _ h => h) (Or.inl ⟨by rfl, ?_⟩) trivial ?_
        rotate_left
        ·intro w hSw
         go_simp
         try (with_reducible rfl)
        try simp only [Act.put, List.setIfInBounds_toArray, List.set_cons_zero, List.set_cons_succ]
        refine wpAnyH_ready (rs := [8]) (by kernel_rfl) (by simp) (AllReadyH.cons rfl (fun K hK => ?_) AllReadyH.nil)
        ·have HXB := hid (show w.heap.size <= W.heap.size /\ ¬ v.ownBlock = some W.heap.size from ⟨HD.out.gr.size, fun e => by have := (HD.out.own.lt _ e).2; omega⟩)
         go_simp
         refine hK.out _ _ trivial (fun _ => ?_)
         clear hK K
         try simp only [Act.put, List.setIfInBounds_toArray, List.set_cons_zero, List.set_cons_succ]
         have HX := hid (heap_alloc_new W (.cells #[.string ⟨#[]⟩, .string ⟨#[]⟩] 67))
         replace HD := hid (HD.out.alloc (.cells #[.string ⟨#[]⟩, .string ⟨#[]⟩] 67))
         replace HT := hid (blk_alloc HT.out (.cells #[.string ⟨#[]⟩, .string ⟨#[]⟩] 67))
         generalize W.heap.size = bx at *
         generalize W.alloc (.cells #[.string ⟨#[]⟩, .string ⟨#[]⟩] 67) = W at *
         refine wpAnyH_ready (rs := [9]) (by kernel_rfl) (by simp) (AllReadyH.cons rfl (fun K hK => ?_) AllReadyH.nil)
         ·obtain ⟨⟨e0, e1⟩, f0, f1⟩ := box2e HX.out
          go_simp
          refine hK.out _ _ trivial (fun _ => ?_)
          clear hK K
          try simp only [Act.put, List.setIfInBounds_toArray, List.set_cons_zero, List.set_cons_succ]
          refine wpAnyH_done (by kernel_rfl) ?_ _
          go_wp2_with fail
          go_meet
          exact ⟨bx, tA, tC, rfl, ⟨box_set2 HX.out, HXB.out, htA, Nat.le_of_lt htC, (HD.out.set HXB.out.1 HXB.out.2 0 _).set HXB.out.1 HXB.out.2 1 _⟩⟩
       ·have HXB := hid (show w.heap.size <= W.heap.size /\ ¬ v.ownBlock = some W.heap.size from ⟨HD.out.gr.size, fun e => by have := (HD.out.own.lt _ e).2; omega⟩)
        go_simp
        refine hK.out _ _ trivial (fun _ => ?_)
        clear hK K
        try simp only [Act.put, List.setIfInBounds_toArray, List.set_cons_zero, List.set_cons_succ]
        have HX := hid (heap_alloc_new W (.cells #[.string ⟨#[]⟩, .string ⟨#[]⟩] 67))
        replace HD := hid (HD.out.alloc (.cells #[.string ⟨#[]⟩, .string ⟨#[]⟩] 67))
        replace HT := hid (blk_alloc HT.out (.cells #[.string ⟨#[]⟩, .string ⟨#[]⟩] 67))
        generalize W.heap.size = bx at *
        generalize W.alloc (.cells #[.string ⟨#[]⟩, .string ⟨#[]⟩] 67) = W at *
        refine wpAnyH_ready (rs := [6]) (by kernel_rfl) (by simp) (AllReadyH.cons rfl (fun K hK => ?_) AllReadyH.nil)
        ·go_simp
         refine (cText ⟨#[97, 98, 60, 38, 34, 62, 32, 49]⟩ 4 w0 a len cap b _ (by omega) (by omega) (by decide) (by decide) hlen HR.out HD.out.cur).mono ?_
         rintro e W3 ⟨tC, rfl, htC, hC, hG⟩
         replace HT := hid ((hG.block tb (lt_of_heap HT.out) (fun e => HTB.out (Option.some.inj e))).trans HT.out)
         replace HX := hid ((hG.block bx (lt_of_heap HX.out) (fun e => by have := HXB.out.1; have := HD.out.lt; have := Option.some.inj e; omega)).trans HX.out)
         replace HD := hid (HD.out.draw hC hG)
         clear hC hG
         go_wp2_with fail
         refine hK.out _ _ trivial (fun _ => ?_)
         clear hK K
         try simp only [Act.put, List.setIfInBounds_toArray, List.set_cons_zero, List.set_cons_succ]
         generalize W3 = W at *
         refine wpAnyH_take (i := 7) (v := ?_) rfl (by kernel_rfl) (by kernel_rfl) (by kernel_rfl) (fun _ _ _ h => h) (Or.inl ⟨by rfl, ?_⟩) trivial ?_
         rotate_left
         ·intro w hSw
          go_simp
          try (with_reducible rfl)
         try simp only [Act.put, List.setIfInBounds_toArray, List.set_cons_zero, List.set_cons_succ]
         refine wpAnyH_ready (rs := [9]) (by kernel_rfl) (by simp) (AllReadyH.cons rfl (fun K hK => ?_) AllReadyH.nil)
         ·obtain ⟨⟨e0, e1⟩, f0, f1⟩ := box2e HX.out
          go_simp
          refine hK.out _ _ trivial (fun _ => ?_)
          clear hK K
          try simp only [Act.put, List.setIfInBounds_toArray, List.set_cons_zero, List.set_cons_succ]
          refine wpAnyH_done (by kernel_rfl) ?_ _
          go_wp2_with fail
          go_meet
          exact ⟨bx, tA, tC, rfl, ⟨box_set2 HX.out, HXB.out, htA, Nat.le_of_lt htC, (HD.out.set HXB.out.1 HXB.out.2 0 _).set HXB.out.1 HXB.out.2 1 _⟩⟩
      ·go_simp
       refine (cText ⟨#[97, 98, 60, 38, 34, 62, 32, 49]⟩ 4 w0 a len cap b _ (by omega) (by omega) (by decide) (by decide) hlen HR.out HD.out.cur).mono ?_
       rintro e W3 ⟨tC, rfl, htC, hC, hG⟩
       replace HT := hid ((hG.block tb (lt_of_heap HT.out) (fun e => HTB.out (Option.some.inj e))).trans HT.out)
       replace HD := hid (HD.out.draw hC hG)
       clear hC hG
       go_wp2_with fail
       refine hK.out _ _ trivial (fun _ => ?_)
       clear hK K
       try simp only [Act.put, List.setIfInBounds_toArray, List.set_cons_zero, List.set_cons_succ]
       generalize W3 = W at *
       refine wpAnyH_ready (rs := [4, 8]) (by kernel_rfl) (by simp) (AllReadyH.cons rfl (fun K hK => ?_) (AllReadyH.cons rfl (fun K hK => ?_) AllReadyH.nil))
       ·obtain ⟨tA, hcA, htA⟩ := tabA_at _ tb x hx HT.out
        go_simp
        refine hK.out _ _ trivial (fun _ => ?_)
        clear hK K
        try simp only [Act.put, List.setIfInBounds_toArray, List.set_cons_zero, List.set_cons_succ]
        clear hcA
        refine wpAnyH_take (i := 7) (v := ?_) rfl (by kernel_rfl) (by kernel_rfl) (by kernel_rfl) (fun _ _ _ h => h) (Or.inl ⟨by rfl, ?_⟩) trivial ?_
        rotate_left
        ·intro w hSw
         go_simp
         try (with_reducible rfl)
        try simp only [Act.put, List.setIfInBounds_toArray, List.set_cons_zero, List.set_cons_succ]
        refine wpAnyH_ready (rs := [8]) (by kernel_rfl) (by simp) (AllReadyH.cons rfl (fun K hK => ?_) AllReadyH.nil)
        ·have HXB := hid (show w.heap.size <= W.heap.size /\ ¬ v.ownBlock = some W.heap.size from ⟨HD.out.gr.size, fun e => by have := (HD.out.own.lt _ e).2; omega⟩)
         go_simp
         refine hK.out _ _ trivial (fun _ => ?_)
         clear hK K
         try simp only [Act.put, List.setIfInBounds_toArray, List.set_cons_zero, List.set_cons_succ]
         have HX := hid (heap_alloc_new W (.cells #[.string ⟨#[]⟩, .string ⟨#[]⟩] 67))
         replace HD := hid (HD.out.alloc (.cells #[.string ⟨#[]⟩, .string ⟨#[]⟩] 67))
         replace HT := hid (blk_alloc HT.out (.cells #[.string ⟨#[]⟩, .string ⟨#[]⟩] 67))
         generalize W.heap.size = bx at *
         generalize W.alloc (.cells #[.string ⟨#[]⟩, .string ⟨#[]⟩] 67) = W at *
         refine wpAnyH_ready (rs := [9]) (by kernel_rfl) (by simp) (AllReadyH.cons rfl (fun K hK => ?_) AllReadyH.nil)
         ·obtain ⟨⟨e0, e1⟩, f0, f1⟩ := box2e HX.out
          go_simp
          refine hK.out _ _ trivial (fun _ => ?_)
          clear hK K
          try simp only [Act.put, List.setIfInBounds_toArray, List.set_cons_zero, List.set_cons_succ]
          refine wpAnyH_done (by kernel_rfl) ?_ _
          go_wp2_with fail
          go_meet
          exact ⟨bx, tA, tC, rfl, ⟨box_set2 HX.out, HXB.out, htA, Nat.le_of_lt htC, (HD.out.set HXB.out.1 HXB.out.2 0 _).set HXB.out.1 HXB.out.2 1 _⟩⟩
       ·have HXB := hid (show w.heap.size <= W.heap.size /\ ¬ v.ownBlock = some W.heap.size from ⟨HD.out.gr.size, fun e => by have := (HD.out.own.lt _ e).2; omega⟩)
        go_simp
        refine hK.out _ _ trivial (fun _ => ?_)
        clear hK K
        try simp only [Act.put, List.setIfInBounds_toArray, List.set_cons_zero, List.set_cons_succ]
        have HX := hid (heap_alloc_new W (.cells #[.string ⟨#[]⟩, .string ⟨#[]⟩] 67))
        replace HD := hid (HD.out.alloc (.cells #[.string ⟨#[]⟩, .string ⟨#[]⟩] 67))
        replace HT := hid (blk_alloc HT.out (.cells #[.string ⟨#[]⟩, .string ⟨#[]⟩] 67))
        generalize W.heap.size = bx at *
        generalize W.alloc (.cells #[.string ⟨#[]⟩, .string ⟨#[]⟩] 67) = W at *
        refine wpAnyH_ready (rs := [4]) (by kernel_rfl) (by simp) (AllReadyH.cons rfl (fun K hK => ?_) AllReadyH.nil)
        ·obtain ⟨tA, hcA, htA⟩ := tabA_at _ tb x hx HT.out
         go_simp
         refine hK.out _ _ trivial (fun _ => ?_)
         clear hK K
         try simp only [Act.put, List.setIfInBounds_toArray, List.set_cons_zero, List.set_cons_succ]
         clear hcA
         refine wpAnyH_take (i := 7) (v := ?_) rfl (by kernel_rfl) (by kernel_rfl) (by kernel_rfl) (fun _ _ _ h => h) (Or.inl ⟨by rfl, ?_⟩) trivial ?_
         rotate_left
         ·intro w hSw
          go_simp
          try (with_reducible rfl)
         try simp only [Act.put, List.setIfInBounds_toArray, List.set_cons_zero, List.set_cons_succ]
         refine wpAnyH_ready (rs := [9]) (by kernel_rfl) (by simp) (AllReadyH.cons rfl (fun K hK => ?_) AllReadyH.nil)
         ·obtain ⟨⟨e0, e1⟩, f0, f1⟩ := box2e HX.out
          go_simp
          refine hK.out _ _ trivial (fun _ => ?_)
          clear hK K
          try simp only [Act.put, List.setIfInBounds_toArray, List.set_cons_zero, List.set_cons_succ]
          refine wpAnyH_done (by kernel_rfl) ?_ _
          go_wp2_with fail
          go_meet
          exact ⟨bx, tA, tC, rfl, ⟨box_set2 HX.out, HXB.out, htA, Nat.le_of_lt htC, (HD.out.set HXB.out.1 HXB.out.2 0 _).set HXB.out.1 HXB.out.2 1 _⟩⟩
      ·have HXB := hid (show w.heap.size <= W.heap.size /\ ¬ v.ownBlock = some W.heap.size from ⟨HD.out.gr.size, fun e => by have := (HD.out.own.lt _ e).2; omega⟩)
       go_simp
       refine hK.out _ _ trivial (fun _ => ?_)
       clear hK K
       try simp only [Act.put, List.setIfInBounds_toArray, List.set_cons_zero, List.set_cons_succ]
       have HX := hid (heap_alloc_new W (.cells #[.string ⟨#[]⟩, .string ⟨#[]⟩] 67))
       replace HD := hid (HD.out.alloc (.cells #[.string ⟨#[]⟩, .string ⟨#[]⟩] 67))
       replace HT := hid (blk_alloc HT.out (.cells #[.string ⟨#[]⟩, .string ⟨#[]⟩] 67))
       generalize W.heap.size = bx at *
       generalize W.alloc (.cells #[.string ⟨#[]⟩, .string ⟨#[]⟩] 67) = W at *
       refine wpAnyH_ready (rs := [4, 6]) (by kernel_rfl) (by simp) (AllReadyH.cons rfl (fun K hK => ?_) (AllReadyH.cons rfl (fun K hK => ?_) AllReadyH.nil))
       ·obtain ⟨tA, hcA, htA⟩ := tabA_at _ tb x hx HT.out
        go_simp
        refine hK.out _ _ trivial (fun _ => ?_)
        clear hK K
        try simp only [Act.put, List.setIfInBounds_toArray, List.set_cons_zero, List.set_cons_succ]
        clear hcA
        refine wpAnyH_ready (rs := [6]) (by kernel_rfl) (by simp) (AllReadyH.cons rfl (fun K hK => ?_) AllReadyH.nil)
        ·go_simp
         refine (cText ⟨#[97, 98, 60, 38, 34, 62, 32, 49]⟩ 4 w0 a len cap b _ (by omega) (by omega) (by decide) (by decide) hlen HR.out HD.out.cur).mono ?_
         rintro e W3 ⟨tC, rfl, htC, hC, hG⟩
         replace HT := hid ((hG.block tb (lt_of_heap HT.out) (fun e => HTB.out (Option.some.inj e))).trans HT.out)
         replace HX := hid ((hG.block bx (lt_of_heap HX.out) (fun e => by have := HXB.out.1; have := HD.out.lt; have := Option.some.inj e; omega)).trans HX.out)
         replace HD := hid (HD.out.draw hC hG)
         clear hC hG
         go_wp2_with fail
         refine hK.out _ _ trivial (fun _ => ?_)
         clear hK K
         try simp only [Act.put, List.setIfInBounds_toArray, List.set_cons_zero, List.set_cons_succ]
         generalize W3 = W at *
         refine wpAnyH_take (i := 7) (v := ?_) rfl (by kernel_rfl) (by kernel_rfl) (by kernel_rfl) (fun _ _ _ h => h) (Or.inl ⟨by rfl, ?_⟩) trivial ?_
         rotate_left
         ·intro w hSw
          go_simp
          try (with_reducible rfl)
         try simp only [Act.put, List.setIfInBounds_toArray, List.set_cons_zero, List.set_cons_succ]
         refine wpAnyH_ready (rs := [9]) (by kernel_rfl) (by simp) (AllReadyH.cons rfl (fun K hK => ?_) AllReadyH.nil)
         ·obtain ⟨⟨e0, e1⟩, f0, f1⟩ := box2e HX.out
          go_simp
          refine hK.out _ _ trivial (fun _ => ?_)
          clear hK K
          try simp only [Act.put, List.setIfInBounds_toArray, List.set_cons_zero, List.set_cons_succ]
          refine wpAnyH_done (by kernel_rfl) ?_ _
          go_wp2_with fail
          go_meet
          exact ⟨bx, tA, tC, rfl, ⟨box_set2 HX.out, HXB.out, htA, Nat.le_of_lt htC, (HD.out.set HXB.out.1 HXB.out.2 0 _).set HXB.out.1 HXB.out.2 1 _⟩⟩
       ·go_simp
        refine (cText ⟨#[97, 98, 60, 38, 34, 62, 32, 49]⟩ 4 w0 a len cap b _ (by omega) (by omega) (by decide) (by decide) hlen HR.out HD.out.cur).mono ?_
        rintro e W3 ⟨tC, rfl, htC, hC, hG⟩
        replace HT := hid ((hG.block tb (lt_of_heap HT.out) (fun e => HTB.out (Option.some.inj e))).trans HT.out)
        replace HX := hid ((hG.block bx (lt_of_heap HX.out) (fun e => by have := HXB.out.1; have := HD.out.lt; have := Option.some.inj e; omega)).trans HX.out)
        replace HD := hid (HD.out.draw hC hG)
        clear hC hG
        go_wp2_with fail
        refine hK.out _ _ trivial (fun _ => ?_)
        clear hK K
        try simp only [Act.put, List.setIfInBounds_toArray, List.set_cons_zero, List.set_cons_succ]
        generalize W3 = W at *
        refine wpAnyH_ready (rs := [4]) (by kernel_rfl) (by simp) (AllReadyH.cons rfl (fun K hK => ?_) AllReadyH.nil)
        ·obtain ⟨tA, hcA, htA⟩ := tabA_at _ tb x hx HT.out
         go_simp
         refine hK.out _ _ trivial (fun _ => ?_)
         clear hK K
         try simp only [Act.put, List.setIfInBounds_toArray, List.set_cons_zero, List.set_cons_succ]
         clear hcA
         refine wpAnyH_take (i := 7) (v := ?_) rfl (by kernel_rfl) (by kernel_rfl) (by kernel_rfl) (fun _ _ _ h => h) (Or.inl ⟨by rfl, ?_⟩) trivial ?_
         rotate_left
         ·intro w hSw
          go_simp
          try (with_reducible rfl)
         try simp only [Act.put, List.setIfInBounds_toArray, List.set_cons_zero, List.set_cons_succ]
         refine wpAnyH_ready (rs := [9]) (by kernel_rfl) (by simp) (AllReadyH.cons rfl (fun K hK => ?_) AllReadyH.nil)
         ·obtain ⟨⟨e0, e1⟩, f0, f1⟩ := box2e HX.out
          go_simp
          refine hK.out _ _ trivial (fun _ => ?_)
          clear hK K
          try simp only [Act.put, List.setIfInBounds_toArray, List.set_cons_zero, List.set_cons_succ]
          refine wpAnyH_done (by kernel_rfl) ?_ _
          go_wp2_with fail
          go_meet
          exact ⟨bx, tA, tC, rfl, ⟨box_set2 HX.out, HXB.out, htA, Nat.le_of_lt htC, (HD.out.set HXB.out.1 HXB.out.2 0 _).set HXB.out.1 HXB.out.2 1 _⟩⟩
     ·go_simp
      refine (cText ⟨#[97, 98, 60, 38, 34, 62, 32, 49]⟩ 4 w0 a len cap b _ (by omega) (by omega) (by decide) (by decide) hlen HR.out HD.out.cur).mono ?_
      rintro e W3 ⟨tC, rfl, htC, hC, hG⟩
      replace HD := hid (HD.out.draw hC hG)
      clear hC hG
      go_wp2_with fail
      refine hK.out _ _ trivial (fun _ => ?_)
      clear hK K
      try simp only [Act.put, List.setIfInBounds_toArray, List.set_cons_zero, List.set_cons_succ]
      generalize W3 = W at *
      refine wpAnyH_ready (rs := [0, 8]) (by kernel_rfl) (by simp) (AllReadyH.cons rfl (fun K hK => ?_) (AllReadyH.cons rfl (fun K hK => ?_) AllReadyH.nil))
      ·have HTB := hid (show ¬ W.heap.size = b by have := HD.out.gr.size; have := HD.out.lt; omega)
       go_simp
       refine hK.out _ _ trivial (fun _ => ?_)
       clear hK K
       try simp only [Act.put, List.setIfInBounds_toArray, List.set_cons_zero, List.set_cons_succ]
       have HT := hid (heap_alloc_new W (.cells #[.string ⟨#[97]⟩, .string ⟨#[120]⟩, .string ⟨#[112, 58, 97]⟩, .string ⟨#[113, 58, 97]⟩, .string ⟨#[112, 58, 120]⟩, .string ⟨#[110, 115]⟩, .string ⟨#[110, 115, 58, 112]⟩, .string ⟨#[73, 100]⟩] 9))
       replace HD := hid (HD.out.alloc (.cells #[.string ⟨#[97]⟩, .string ⟨#[120]⟩, .string ⟨#[112, 58, 97]⟩, .string ⟨#[113, 58, 97]⟩, .string ⟨#[112, 58, 120]⟩, .string ⟨#[110, 115]⟩, .string ⟨#[110, 115, 58, 112]⟩, .string ⟨#[73, 100]⟩] 9))
       generalize W.heap.size = tb at *
       generalize W.alloc (.cells #[.string ⟨#[97]⟩, .string ⟨#[120]⟩, .string ⟨#[112, 58, 97]⟩, .string ⟨#[113, 58, 97]⟩, .string ⟨#[112, 58, 120]⟩, .string ⟨#[110, 115]⟩, .string ⟨#[110, 115, 58, 112]⟩, .string ⟨#[73, 100]⟩] 9) = W at *
       refine wpAnyH_take (i := 3) (v := ?_) rfl (by kernel_rfl) (by kernel_rfl) (by kernel_rfl) (fun _ _ _ h => h) (Or.inl ⟨by rfl, ?_⟩) trivial ?_
       rotate_left
       ·intro w hSw
        go_simp
        try (with_reducible rfl)
       try simp only [Act.put, List.setIfInBounds_toArray, List.set_cons_zero, List.set_cons_succ]
       refine wpAnyH_ready (rs := [4, 8]) (by kernel_rfl) (by simp) (AllReadyH.cons rfl (fun K hK => ?_) (AllReadyH.cons rfl (fun K hK => ?_) AllReadyH.nil))
       ·obtain ⟨tA, hcA, htA⟩ := tabA_at _ tb x hx HT.out
        go_simp
        refine hK.out _ _ trivial (fun _ => ?_)
        clear hK K
        try simp only [Act.put, List.setIfInBounds_toArray, List.set_cons_zero, List.set_cons_succ]
        clear hcA
        refine wpAnyH_take (i := 7) (v := ?_) rfl (by kernel_rfl) (by kernel_rfl) (by kernel_rfl) (fun _ _ _ h => h) (Or.inl ⟨by rfl, ?_⟩) trivial ?_
        rotate_left
        ·intro w hSw
         go_simp
         try (with_reducible rfl)
        try simp only [Act.put, List.setIfInBounds_toArray, List.set_cons_zero, List.set_cons_succ]
        refine wpAnyH_ready (rs := [8]) (by kernel_rfl) (by simp) (AllReadyH.cons rfl (fun K hK => ?_) AllReadyH.nil)
        ·have HXB := hid (show w.heap.size <= W.heap.size /\ ¬ v.ownBlock = some W.heap.size from ⟨HD.out.gr.size, fun e => by have := (HD.out.own.lt _ e).2; omega⟩)
         go_simp
         refine hK.out _ _ trivial (fun _ => ?_)
         clear hK K
         try simp only [Act.put, List.setIfInBounds_toArray, List.set_cons_zero, List.set_cons_succ]
         have HX := hid (heap_alloc_new W (.cells #[.string ⟨#[]⟩, .string ⟨#[]⟩] 67))
         replace HD := hid (HD.out.alloc (.cells #[.string ⟨#[]⟩, .string ⟨#[]⟩] 67))
         replace HT := hid (blk_alloc HT.out (.cells #[.string ⟨#[]⟩, .string ⟨#[]⟩] 67))
         generalize W.heap.size = bx at *
         generalize W.alloc (.cells #[.string ⟨#[]⟩, .string ⟨#[]⟩] 67) = W at *
         refine wpAnyH_ready (rs := [9]) (by kernel_rfl) (by simp) (AllReadyH.cons rfl (fun K hK => ?_) AllReadyH.nil)
         ·obtain ⟨⟨e0, e1⟩, f0, f1⟩ := box2e HX.out
          go_simp
          refine hK.out _ _ trivial (fun _ => ?_)
          clear hK K
          try simp only [Act.put, List.setIfInBounds_toArray, List.set_cons_zero, List.set_cons_succ]
          refine wpAnyH_done (by kernel_rfl) ?_ _
          go_wp2_with fail
          go_meet
          exact ⟨bx, tA, tC, rfl, ⟨box_set2 HX.out, HXB.out, htA, Nat.le_of_lt htC, (HD.out.set HXB.out.1 HXB.out.2 0 _).set HXB.out.1 HXB.out.2 1 _⟩⟩
       ·have HXB := hid (show w.heap.size <= W.heap.size /\ ¬ v.ownBlock = some W.heap.size from ⟨HD.out.gr.size, fun e => by have := (HD.out.own.lt _ e).2; omega⟩)
        go_simp
        refine hK.out _ _ trivial (fun _ => ?_)
        clear hK K
        try simp only [Act.put, List.setIfInBounds_toArray, List.set_cons_zero, List.set_cons_succ]
        have HX := hid (heap_alloc_new W (.cells #[.string ⟨#[]⟩, .string ⟨#[]⟩] 67))
        replace HD := hid (HD.out.alloc (.cells #[.string ⟨#[]⟩, .string ⟨#[]⟩] 67))
        replace HT := hid (blk_alloc HT.out (.cells #[.string ⟨#[]⟩, .string ⟨#[]⟩] 67))
        generalize W.heap.size = bx at *
        generalize W.alloc (.cells #[.string ⟨#[]⟩, .string ⟨#[]⟩] 67) = W at *
        refine wpAnyH_ready (rs := [4]) (by kernel_rfl) (by simp) (AllReadyH.cons rfl (fun K hK => ?_) AllReadyH.nil)
        ·obtain ⟨tA, hcA, htA⟩ := tabA_at _ tb x hx HT.out
         go_simp
         refine hK.out _ _ trivial (fun _ => ?_)
         clear hK K
         try simp only [Act.put, List.setIfInBounds_toArray, List.set_cons_zero, List.set_cons_succ]
         clear hcA
         refine wpAnyH_take (i := 7) (v := ?_) rfl (by kernel_rfl) (by kernel_rfl) (by kernel_rfl) (fun _ _ _ h => h) (Or.inl ⟨by rfl, ?_⟩) trivial ?_
         rotate_left
         ·intro w hSw
          go_simp
          try (with_reducible rfl)
         try simp only [Act.put, List.setIfInBounds_toArray, List.set_cons_zero, List.set_cons_succ]
         refine wpAnyH_ready (rs := [9]) (by kernel_rfl) (by simp) (AllReadyH.cons rfl (fun K hK => ?_) AllReadyH.nil)
         ·obtain ⟨⟨e0, e1⟩, f0, f1⟩ := box2e HX.out
          go_simp
          refine hK.out _ _ trivial (fun _ => ?_)
          clear hK K
          try simp only [Act.put, List.setIfInBounds_toArray, List.set_cons_zero, List.set_cons_succ]
          refine wpAnyH_done (by kernel_rfl) ?_ _
          go_wp2_with fail
          go_meet
          exact ⟨bx, tA, tC, rfl, ⟨box_set2 HX.out, HXB.out, htA, Nat.le_of_lt htC, (HD.out.set HXB.out.1 HXB.out.2 0 _).set HXB.out.1 HXB.out.2 1 _⟩⟩
      ·have HXB := hid (show w.heap.size <= W.heap.size /\ ¬ v.ownBlock = some W.heap.size from ⟨HD.out.gr.size, fun e => by have := (HD.out.own.lt _ e).2; omega⟩)
       go_simp
       refine hK.out _ _ trivial (fun _ => ?_)
       clear hK K
       try simp only [Act.put, List.setIfInBounds_toArray, List.set_cons_zero, List.set_cons_succ]
       have HX := hid (heap_alloc_new W (.cells #[.string ⟨#[]⟩, .string ⟨#[]⟩] 67))
       replace HD := hid (HD.out.alloc (.cells #[.string ⟨#[]⟩, .string ⟨#[]⟩] 67))
       generalize W.heap.size = bx at *
       generalize W.alloc (.cells #[.string ⟨#[]⟩, .string ⟨#[]⟩] 67) = W at *
       refine wpAnyH_ready (rs := [0]) (by kernel_rfl) (by simp) (AllReadyH.cons rfl (fun K hK => ?_) AllReadyH.nil)
       ·have HTB := hid (show ¬ W.heap.size = b by have := HD.out.gr.size; have := HD.out.lt; omega)
        go_simp
        refine hK.out _ _ trivial (fun _ => ?_)
        clear hK K
        try simp only [Act.put, List.setIfInBounds_toArray, List.set_cons_zero, List.set_cons_succ]
        have HT := hid (heap_alloc_new W (.cells #[.string ⟨#[97]⟩, .string ⟨#[120]⟩, .string ⟨#[112, 58, 97]⟩, .string ⟨#[113, 58, 97]⟩, .string ⟨#[112, 58, 120]⟩, .string ⟨#[110, 115]⟩, .string ⟨#[110, 115, 58, 112]⟩, .string ⟨#[73, 100]⟩] 9))
        replace HD := hid (HD.out.alloc (.cells #[.string ⟨#[97]⟩, .string ⟨#[120]⟩, .string ⟨#[112, 58, 97]⟩, .string ⟨#[113, 58, 97]⟩, .string ⟨#[112, 58, 120]⟩, .string ⟨#[110, 115]⟩, .string ⟨#[110, 115, 58, 112]⟩, .string ⟨#[73, 100]⟩] 9))
        replace HX := hid (blk_alloc HX.out (.cells #[.string ⟨#[97]⟩, .string ⟨#[120]⟩, .string ⟨#[112, 58, 97]⟩, .string ⟨#[113, 58, 97]⟩, .string ⟨#[112, 58, 120]⟩, .string ⟨#[110, 115]⟩, .string ⟨#[110, 115, 58, 112]⟩, .string ⟨#[73, 100]⟩] 9))
        generalize W.heap.size = tb at *
        generalize W.alloc (.cells #[.string ⟨#[97]⟩, .string ⟨#[120]⟩, .string ⟨#[112, 58, 97]⟩, .string ⟨#[113, 58, 97]⟩, .string ⟨#[112, 58, 120]⟩, .string ⟨#[110, 115]⟩, .string ⟨#[110, 115, 58, 112]⟩, .string ⟨#[73, 100]⟩] 9) = W at *
        refine wpAnyH_take (i := 3) (v := ?_) rfl (by kernel_rfl) (by kernel_rfl) (by kernel_rfl) (fun _ _ _ h => h) (Or.inl ⟨by rfl, ?_⟩) trivial ?_
        rotate_left
        ·intro w hSw
         go_simp
         try (with_reducible rfl)
        try simp only [Act.put, List.setIfInBounds_toArray, List.set_cons_zero, List.set_cons_succ]
        refine wpAnyH_ready (rs := [4]) (by kernel_rfl) (by simp) (AllReadyH.cons rfl (fun K hK => ?_) AllReadyH.nil)
        ·obtain ⟨tA, hcA, htA⟩ := tabA_at _ tb x hx HT.out
         go_simp
         refine hK.out _ _ trivial (fun _ => ?_)
         clear hK K
         try simp only [Act.put, List.setIfInBounds_toArray, List.set_cons_zero, List.set_cons_succ]
         clear hcA
         refine wpAnyH_take (i := 7) (v := ?_) rfl (by kernel_rfl) (by kernel_rfl) (by kernel_rfl) (fun _ _ _ h => h) (Or.inl ⟨by rfl, ?_⟩) trivial ?_
         rotate_left
         ·intro w hSw
          go_simp
          try (with_reducible rfl)
         try simp only [Act.put, List.setIfInBounds_toArray, List.set_cons_zero, List.set_cons_succ]
         refine wpAnyH_ready (rs := [9]) (by kernel_rfl) (by simp) (AllReadyH.cons rfl (fun K hK => ?_) AllReadyH.nil)
         ·obtain ⟨⟨e0, e1⟩, f0, f1⟩ := box2e HX.out
          go_simp
          refine hK.out _ _ trivial (fun _ => ?_)
          clear hK K
          try simp only [Act.put, List.setIfInBounds_toArray, List.set_cons_zero, List.set_cons_succ]
          refine wpAnyH_done (by kernel_rfl) ?_ _
          go_wp2_with fail
          go_meet
          exact ⟨bx, tA, tC, rfl, ⟨box_set2 HX.out, HXB.out, htA, Nat.le_of_lt htC, (HD.out.set HXB.out.1 HXB.out.2 0 _).set HXB.out.1 HXB.out.2 1 _⟩⟩
     ·have HXB := hid (show w.heap.size <= W.heap.size /\ ¬ v.ownBlock = some W.heap.size from ⟨HD.out.gr.size, fun e => by have := (HD.out.own.lt _ e).2; omega⟩)
      go_simp
      refine hK.out _ _ trivial (fun _ => ?_)
      clear hK K
      try simp only [Act.put, List.setIfInBounds_toArray, List.set_cons_zero, List.set_cons_succ]
      have HX := hid (heap_alloc_new W (.cells #[.string ⟨#[]⟩, .string ⟨#[]⟩] 67))
      replace HD := hid (HD.out.alloc (.cells #[.string ⟨#[]⟩, .string ⟨#[]⟩] 67))
      generalize W.heap.size = bx at *
      generalize W.alloc (.cells #[.string ⟨#[]⟩, .string ⟨#[]⟩] 67) = W at *
      refine wpAnyH_ready (rs := [0, 6]) (by kernel_rfl) (by simp) (AllReadyH.cons rfl (fun K hK => ?_) (AllReadyH.cons rfl (fun K hK => ?_) AllReadyH.nil))
      ·have HTB := hid (show ¬ W.heap.size = b by have := HD.out.gr.size; have := HD.out.lt; omega)
       go_simp
       refine hK.out _ _ trivial (fun _ => ?_)
       clear hK K
       try simp only [Act.put, List.setIfInBounds_toArray, List.set_cons_zero, List.set_cons_succ]
       have HT := hid (heap_alloc_new W (.cells #[.string ⟨#[97]⟩, .string ⟨#[120]⟩, .string ⟨#[112, 58, 97]⟩, .string ⟨#[113, 58, 97]⟩, .string ⟨#[112, 58, 120]⟩, .string ⟨#[110, 115]⟩, .string ⟨#[110, 115, 58, 112]⟩, .string ⟨#[73, 100]⟩] 9))
       replace HD := hid (HD.out.alloc (.cells #[.string ⟨#[97]⟩, .string ⟨#[120]⟩, .string ⟨#[112, 58, 97]⟩, .string ⟨#[113, 58, 97]⟩, .string ⟨#[112, 58, 120]⟩, .string ⟨#[110, 115]⟩, .string ⟨#[110, 115, 58, 112]⟩, .string ⟨#[73, 100]⟩] 9))
       replace HX := hid (blk_alloc HX.out (.cells #[.string ⟨#[97]⟩, .string ⟨#[120]⟩, .string ⟨#[112, 58, 97]⟩, .string ⟨#[113, 58, 97]⟩, .string ⟨#[112, 58, 120]⟩, .string ⟨#[110, 115]⟩, .string ⟨#[110, 115, 58, 112]⟩, .string ⟨#[73, 100]⟩] 9))
       generalize W.heap.size = tb at *
       generalize W.alloc (.cells #[.string ⟨#[97]⟩, .string ⟨#[120]⟩, .string ⟨#[112, 58, 97]⟩, .string ⟨#[113, 58, 97]⟩, .string ⟨#[112, 58, 120]⟩, .string ⟨#[110, 115]⟩, .string ⟨#[110, 115, 58, 112]⟩, .string ⟨#[73, 100]⟩] 9) = W at *
       refine wpAnyH_take (i := 3) (v := ?_) rfl (by kernel_rfl) (by kernel_rfl) (by kernel_rfl) (fun _ _ _ h => h) (Or.inl ⟨by rfl, ?_⟩) trivial ?_
       rotate_left
       ·intro w hSw
        go_simp
        try (with_reducible rfl)
       try simp only [Act.put, List.setIfInBounds_toArray, List.set_cons_zero, List.set_cons_succ]
       refine wpAnyH_ready (rs := [4, 6]) (by kernel_rfl) (by simp) (AllReadyH.cons rfl (fun K hK => ?_) (AllReadyH.cons rfl (fun K hK => ?_) AllReadyH.nil))
       ·obtain ⟨tA, hcA, htA⟩ := tabA_at _ tb x hx HT.out
        go_simp
        refine hK.out _ _ trivial (fun _ => ?_)
        clear hK K
        try simp only [Act.put, List.setIfInBounds_toArray, List.set_cons_zero, List.set_cons_succ]
        clear hcA
        refine wpAnyH_ready (rs := [6]) (by kernel_rfl) (by simp) (AllReadyH.cons rfl (fun K hK => ?_) AllReadyH.nil)
        ·go_simp
         refine (cText ⟨#[97, 98, 60, 38, 34, 62, 32, 49]⟩ 4 w0 a len cap b _ (by omega) (by omega) (by decide) (by decide) hlen HR.out HD.out.cur).mono ?_
         rintro e W3 ⟨tC, rfl, htC, hC, hG⟩
         replace HT := hid ((hG.block tb (lt_of_heap HT.out) (fun e => HTB.out (Option.some.inj e))).trans HT.out)
         replace HX := hid ((hG.block bx (lt_of_heap HX.out) (fun e => by have := HXB.out.1; have := HD.out.lt; have := Option.some.inj e; omega)).trans HX.out)
         replace HD := hid (HD.out.draw hC hG)
         clear hC hG
         go_wp2_with fail
         refine hK.out _ _ trivial (fun _ => ?_)
         clear hK K
         try simp only [Act.put, List.setIfInBounds_toArray, List.set_cons_zero, List.set_cons_succ]
         generalize W3 = W at *
         refine wpAnyH_take (i := 7) (v := ?_) rfl (by kernel_rfl) (by kernel_rfl) (by kernel_rfl) (fun _ _ _ h => h) (Or.inl ⟨by rfl, ?_⟩) trivial ?_
         rotate_left
         ·intro w hSw
          go_simp
          try (with_reducible rfl)
         try simp only [Act.put, List.setIfInBounds_toArray, List.set_cons_zero, List.set_cons_succ]
         refine wpAnyH_ready (rs := [9]) (by kernel_rfl) (by simp) (AllReadyH.cons rfl (fun K hK => ?_) AllReadyH.nil)
         ·obtain ⟨⟨e0, e1⟩, f0, f1⟩ := box2e HX.out
          go_simp
          refine hK.out _ _ trivial (fun _ => ?_)
          clear hK K
          try simp only [Act.put, List.setIfInBounds_toArray, List.set_cons_zero, List.set_cons_succ]
          refine wpAnyH_done (by kernel_rfl) ?_ _
          go_wp2_with fail
          go_meet
          exact ⟨bx, tA, tC, rfl, ⟨box_set2 HX.out, HXB.out, htA, Nat.le_of_lt htC, (HD.out.set HXB.out.1 HXB.out.2 0 _).set HXB.out.1 HXB.out.2 1 _⟩⟩
       ·go_simp
        refine (cText ⟨#[97, 98, 60, 38, 34, 62, 32, 49]⟩ 4 w0 a len cap b _ (by omega) (by omega) (by decide) (by decide) hlen HR.out HD.out.cur).mono ?_
        rintro e W3 ⟨tC, rfl, htC, hC, hG⟩
        replace HT := hid ((hG.block tb (lt_of_heap HT.out) (fun e => HTB.out (Option.some.inj e))).trans HT.out)
        replace HX := hid ((hG.block bx (lt_of_heap HX.out) (fun e => by have := HXB.out.1; have := HD.out.lt; have := Option.some.inj e; omega)).trans HX.out)
        replace HD := hid (HD.out.draw hC hG)
        clear hC hG
        go_wp2_with fail
        refine hK.out _ _ trivial (fun _ => ?_)
        clear hK K
        try simp only [Act.put, List.setIfInBounds_toArray, List.set_cons_zero, List.set_cons_succ]
        generalize W3 = W at *
        refine wpAnyH_ready (rs := [4]) (by kernel_rfl) (by simp) (AllReadyH.cons rfl (fun K hK => ?_) AllReadyH.nil)
        ·obtain ⟨tA, hcA, htA⟩ := tabA_at _ tb x hx HT.out
         go_simp
         refine hK.out _ _ trivial (fun _ => ?_)
         clear hK K
         try simp only [Act.put, List.setIfInBounds_toArray, List.set_cons_zero, List.set_cons_succ]
         clear hcA
         refine wpAnyH_take (i := 7) (v := ?_) rfl (by kernel_rfl) (by kernel_rfl) (by kernel_rfl) (fun _ _ _ h => h) (Or.inl ⟨by rfl, ?_⟩) trivial ?_
         rotate_left
         ·intro w hSw
          go_simp
          try (with_reducible rfl)
         try simp only [Act.put, List.setIfInBounds_toArray, List.set_cons_zero, List.set_cons_succ]
         refine wpAnyH_ready (rs := [9]) (by kernel_rfl) (by simp) (AllReadyH.cons rfl (fun K hK => ?_) AllReadyH.nil)
         ·obtain ⟨⟨e0, e1⟩, f0, f1⟩ := box2e HX.out
          go_simp
          refine hK.out _ _ trivial (fun _ => ?_)
          clear hK K
          try simp only [Act.put, List.setIfInBounds_toArray, List.set_cons_zero, List.set_cons_succ]
          refine wpAnyH_done (by kernel_rfl) ?_ _
          go_wp2_with fail
          go_meet
          exact ⟨bx, tA, tC, rfl, ⟨box_set2 HX.out, HXB.out, htA, Nat.le_of_lt htC, (HD.out.set HXB.out.1 HXB.out.2 0 _).set HXB.out.1 HXB.out.2 1 _⟩⟩
      ·go_simp
       refine (cText ⟨#[97, 98, 60, 38, 34, 62, 32, 49]⟩ 4 w0 a len cap b _ (by omega) (by omega) (by decide) (by decide) hlen HR.out HD.out.cur).mono ?_
       rintro e W3 ⟨tC, rfl, htC, hC, hG⟩
       replace HX := hid ((hG.block bx (lt_of_heap HX.out) (fun e => by have := HXB.out.1; have := HD.out.lt; have := Option.some.inj e; omega)).trans HX.out)
       replace HD := hid (HD.out.draw hC hG)
       clear hC hG
       go_wp2_with fail
       refine hK.out _ _ trivial (fun _ => ?_)
       clear hK K
       try simp only [Act.put, List.setIfInBounds_toArray, List.set_cons_zero, List.set_cons_succ]
       generalize W3 = W at *
       refine wpAnyH_ready (rs := [0]) (by kernel_rfl) (by simp) (AllReadyH.cons rfl (fun K hK => ?_) AllReadyH.nil)
       ·have HTB := hid (show ¬ W.heap.size = b by have := HD.out.gr.size; have := HD.out.lt; omega)
        go_simp
        refine hK.out _ _ trivial (fun _ => ?_)
        clear hK K
        try simp only [Act.put, List.setIfInBounds_toArray, List.set_cons_zero, List.set_cons_succ]
        have HT := hid (heap_alloc_new W (.cells #[.string ⟨#[97]⟩, .string ⟨#[120]⟩, .string ⟨#[112, 58, 97]⟩, .string ⟨#[113, 58, 97]⟩, .string ⟨#[112, 58, 120]⟩, .string ⟨#[110, 115]⟩, .string ⟨#[110, 115, 58, 112]⟩, .string ⟨#[73, 100]⟩] 9))
        replace HD := hid (HD.out.alloc (.cells #[.string ⟨#[97]⟩, .string ⟨#[120]⟩, .string ⟨#[112, 58, 97]⟩, .string ⟨#[113, 58, 97]⟩, .string ⟨#[112, 58, 120]⟩, .string ⟨#[110, 115]⟩, .string ⟨#[110, 115, 58, 112]⟩, .string ⟨#[73, 100]⟩] 9))
        replace HX := hid (blk_alloc HX.out (.cells #[.string ⟨#[97]⟩, .string ⟨#[120]⟩, .string ⟨#[112, 58, 97]⟩, .string ⟨#[113, 58, 97]⟩, .string ⟨#[112, 58, 120]⟩, .string ⟨#[110, 115]⟩, .string ⟨#[110, 115, 58, 112]⟩, .string ⟨#[73, 100]⟩] 9))
        generalize W.heap.size = tb at *
        generalize W.alloc (.cells #[.string ⟨#[97]⟩, .string ⟨#[120]⟩, .string ⟨#[112, 58, 97]⟩, .string ⟨#[113, 58, 97]⟩, .string ⟨#[112, 58, 120]⟩, .string ⟨#[110, 115]⟩, .string ⟨#[110, 115, 58, 112]⟩, .string ⟨#[73, 100]⟩] 9) = W at *
        refine wpAnyH_take (i := 3) (v := ?_) rfl (by kernel_rfl) (by kernel_rfl) (by kernel_rfl) (fun _ _ _ h => h) (Or.inl ⟨by rfl, ?_⟩) trivial ?_
        rotate_left
        ·intro w hSw
         go_simp
         try (with_reducible rfl)
        try simp only [Act.put, List.setIfInBounds_toArray, List.set_cons_zero, List.set_cons_succ]
        refine wpAnyH_ready (rs := [4]) (by kernel_rfl) (by simp) (AllReadyH.cons rfl (fun K hK => ?_) AllReadyH.nil)
        ·obtain ⟨tA, hcA, htA⟩ := tabA_at _ tb x hx HT.out
         go_simp
         refine hK.out _ _ trivial (fun _ => ?_)
         clear hK K
         try simp only [Act.put, List.setIfInBounds_toArray, List.set_cons_zero, List.set_cons_succ]
         clear hcA
         refine wpAnyH_take (i := 7) (v := ?_) rfl (by kernel_rfl) (by kernel_rfl) (by kernel_rfl) (fun _ _ _ h => h) (Or.inl ⟨by rfl, ?_⟩) trivial ?_
         rotate_left
         ·intro w hSw
          go_simp
          try (with_reducible rfl)
         try simp only [Act.put, List.setIfInBounds_toArray, List.set_cons_zero, List.set_cons_succ]
         refine wpAnyH_ready (rs := [9]) (by kernel_rfl) (by simp) (AllReadyH.cons rfl (fun K hK => ?_) AllReadyH.nil)
         ·obtain ⟨⟨e0, e1⟩, f0, f1⟩ := box2e HX.out
          go_simp
          refine hK.out _ _ trivial (fun _ => ?_)
          clear hK K
          try simp only [Act.put, List.setIfInBounds_toArray, List.set_cons_zero, List.set_cons_succ]
          refine wpAnyH_done (by kernel_rfl) ?_ _
          go_wp2_with fail
          go_meet
          exact ⟨bx, tA, tC, rfl, ⟨box_set2 HX.out, HXB.out, htA, Nat.le_of_lt htC, (HD.out.set HXB.out.1 HXB.out.2 0 _).set HXB.out.1 HXB.out.2 1 _⟩⟩
    ·have HXB := hid (show w.heap.size <= W.heap.size /\ ¬ v.ownBlock = some W.heap.size from ⟨HD.out.gr.size, fun e => by have := (HD.out.own.lt _ e).2; omega⟩)
     go_simp
     refine hK.out _ _ trivial (fun _ => ?_)
     clear hK K
     try simp only [Act.put, List.setIfInBounds_toArray, List.set_cons_zero, List.set_cons_succ]
     have HX := hid (heap_alloc_new W (.cells #[.string ⟨#[]⟩, .string ⟨#[]⟩] 67))
     replace HD := hid (HD.out.alloc (.cells #[.string ⟨#[]⟩, .string ⟨#[]⟩] 67))
     generalize W.heap.size = bx at *
     generalize W.alloc (.cells #[.string ⟨#[]⟩, .string ⟨#[]⟩] 67) = W at *
     refine wpAnyH_ready (rs := [0, 2]) (by kernel_rfl) (by simp) (AllReadyH.cons rfl (fun K hK => ?_) (AllReadyH.cons rfl (fun K hK => ?_) AllReadyH.nil))
     ·have HTB := hid (show ¬ W.heap.size = b by have := HD.out.gr.size; have := HD.out.lt; omega)
      go_simp
      refine hK.out _ _ trivial (fun _ => ?_)
      clear hK K
      try simp only [Act.put, List.setIfInBounds_toArray, List.set_cons_zero, List.set_cons_succ]
      have HT := hid (heap_alloc_new W (.cells #[.string ⟨#[97]⟩, .string ⟨#[120]⟩, .string ⟨#[112, 58, 97]⟩, .string ⟨#[113, 58, 97]⟩, .string ⟨#[112, 58, 120]⟩, .string ⟨#[110, 115]⟩, .string ⟨#[110, 115, 58, 112]⟩, .string ⟨#[73, 100]⟩] 9))
      replace HD := hid (HD.out.alloc (.cells #[.string ⟨#[97]⟩, .string ⟨#[120]⟩, .string ⟨#[112, 58, 97]⟩, .string ⟨#[113, 58, 97]⟩, .string ⟨#[112, 58, 120]⟩, .string ⟨#[110, 115]⟩, .string ⟨#[110, 115, 58, 112]⟩, .string ⟨#[73, 100]⟩] 9))
      replace HX := hid (blk_alloc HX.out (.cells #[.string ⟨#[97]⟩, .string ⟨#[120]⟩, .string ⟨#[112, 58, 97]⟩, .string ⟨#[113, 58, 97]⟩, .string ⟨#[112, 58, 120]⟩, .string ⟨#[110, 115]⟩, .string ⟨#[110, 115, 58, 112]⟩, .string ⟨#[73, 100]⟩] 9))
      generalize W.heap.size = tb at *
      generalize W.alloc (.cells #[.string ⟨#[97]⟩, .string ⟨#[120]⟩, .string ⟨#[112, 58, 97]⟩, .string ⟨#[113, 58, 97]⟩, .string ⟨#[112, 58, 120]⟩, .string ⟨#[110, 115]⟩, .string ⟨#[110, 115, 58, 112]⟩, .string ⟨#[73, 100]⟩] 9) = W at *
      refine wpAnyH_ready (rs := [2]) (by kernel_rfl) (by simp) (AllReadyH.cons rfl (fun K hK => ?_) AllReadyH.nil)
      ·go_simp
       refine (cBelow 8 w0 a len cap b _ hlen HR.out HD.out.cur (by omega) (by omega)).mono ?_
       rintro e W2 ⟨x, rfl, hx, hC, hG⟩
       replace HT := hid ((hG.block tb (lt_of_heap HT.out) (fun e => HTB.out (Option.some.inj e))).trans HT.out)
       replace HX := hid ((hG.block bx (lt_of_heap HX.out) (fun e => by have := HXB.out.1; have := HD.out.lt; have := Option.some.inj e; omega)).trans HX.out)
       replace HD := hid (HD.out.draw hC hG)
       have hx8 : (x : Int) < 8 := by omega
       clear hC hG
       go_wp2_with fail
       refine hK.out _ _ trivial (fun _ => ?_)
       clear hK K
       try simp only [Act.put, List.setIfInBounds_toArray, List.set_cons_zero, List.set_cons_succ]
       generalize W2 = W at *
       refine wpAnyH_take (i := 3) (v := ?_) rfl (by kernel_rfl) (by kernel_rfl) (by kernel_rfl) (fun _ _ _ h => h) (Or.inl ⟨by rfl, ?_⟩) trivial ?_
       rotate_left
       ·intro w hSw
        go_simp
        try (with_reducible rfl)
       try simp only [Act.put, List.setIfInBounds_toArray, List.set_cons_zero, List.set_cons_succ]
       refine wpAnyH_ready (rs := [4, 6]) (by kernel_rfl) (by simp) (AllReadyH.cons rfl (fun K hK => ?_) (AllReadyH.cons rfl (fun K hK => ?_) AllReadyH.nil))
       ·obtain ⟨tA, hcA, htA⟩ := tabA_at _ tb x hx HT.out
        go_simp
        refine hK.out _ _ trivial (fun _ => ?_)
        clear hK K
        try simp only [Act.put, List.setIfInBounds_toArray, List.set_cons_zero, List.set_cons_succ]
        clear hcA
        refine wpAnyH_ready (rs := [6]) (by kernel_rfl) (by simp) (AllReadyH.cons rfl (fun K hK => ?_) AllReadyH.nil)
        ·go_simp
         refine (cText ⟨#[97, 98, 60, 38, 34, 62, 32, 49]⟩ 4 w0 a len cap b _ (by omega) (by omega) (by decide) (by decide) hlen HR.out HD.out.cur).mono ?_
         rintro e W3 ⟨tC, rfl, htC, hC, hG⟩
         replace HT := hid ((hG.block tb (lt_of_heap HT.out) (fun e => HTB.out (Option.some.inj e))).trans HT.out)
         replace HX := hid ((hG.block bx (lt_of_heap HX.out) (fun e => by have := HXB.out.1; have := HD.out.lt; have := Option.some.inj e; omega)).trans HX.out)
         replace HD := hid (HD.out.draw hC hG)
         clear hC hG
         go_wp2_with fail
         refine hK.out _ _ trivial (fun _ => ?_)
         clear hK K
         try simp only [Act.put, List.setIfInBounds_toArray, List.set_cons_zero, List.set_cons_succ]
         generalize W3 = W at *
         refine wpAnyH_take (i := 7) (v := ?_) rfl (by kernel_rfl) (by kernel_rfl) (by kernel_rfl) (fun _ _ _ h => h) (Or.inl ⟨by rfl, ?_⟩) trivial ?_
         rotate_left
         ·intro w hSw
          go_simp
          try (with_reducible rfl)
         try simp only [Act.put, List.setIfInBounds_toArray, List.set_cons_zero, List.set_cons_succ]
         refine wpAnyH_ready (rs := [9]) (by kernel_rfl) (by simp) (AllReadyH.cons rfl (fun K hK => ?_) AllReadyH.nil)
         ·obtain ⟨⟨e0, e1⟩, f0, f1⟩ := box2e HX.out
          go_simp
          refine hK.out _ _ trivial (fun _ => ?_)
          clear hK K
          try simp only [Act.put, List.setIfInBounds_toArray, List.set_cons_zero, List.set_cons_succ]
          refine wpAnyH_done (by kernel_rfl) ?_ _
          go_wp2_with fail
          go_meet
          exact ⟨bx, tA, tC, rfl, ⟨box_set2 HX.out, HXB.out, htA, Nat.le_of_lt htC, (HD.out.set HXB.out.1 HXB.out.2 0 _).set HXB.out.1 HXB.out.2 1 _⟩⟩
       ·go_simp
        refine (cText ⟨#[97, 98, 60, 38, 34, 62, 32, 49]⟩ 4 w0 a len cap b _ (by omega) (by omega) (by decide) (by decide) hlen HR.out HD.out.cur).mono ?_
        rintro e W3 ⟨tC, rfl, htC, hC, hG⟩
        replace HT := hid ((hG.block tb (lt_of_heap HT.out) (fun e => HTB.out (Option.some.inj e))).trans HT.out)
        replace HX := hid ((hG.block bx (lt_of_heap HX.out) (fun e => by have := HXB.out.1; have := HD.out.lt; have := Option.some.inj e; omega)).trans HX.out)
        replace HD := hid (HD.out.draw hC hG)
        clear hC hG
        go_wp2_with fail
        refine hK.out _ _ trivial (fun _ => ?_)
        clear hK K
        try simp only [Act.put, List.setIfInBounds_toArray, List.set_cons_zero, List.set_cons_succ]
        generalize W3 = W at *
        refine wpAnyH_ready (rs := [4]) (by kernel_rfl) (by simp) (AllReadyH.cons rfl (fun K hK => ?_) AllReadyH.nil)
        ·obtain ⟨tA, hcA, htA⟩ := tabA_at _ tb x hx HT.out
         go_simp
         refine hK.out _ _ trivial (fun _ => ?_)
         clear hK K
         try simp only [Act.put, List.setIfInBounds_toArray, List.set_cons_zero, List.set_cons_succ]
         clear hcA
         refine wpAnyH_take (i := 7) (v := ?_) rfl (by kernel_rfl) (by kernel_rfl) (by kernel_rfl) (fun _ _ _ h => h) (Or.inl ⟨by rfl, ?_⟩) trivial ?_
         rotate_left
         ·intro w hSw
          go_simp
          try (with_reducible rfl)
         try simp only [Act.put, List.setIfInBounds_toArray, List.set_cons_zero, List.set_cons_succ]
         refine wpAnyH_ready (rs := [9]) (by kernel_rfl) (by simp) (AllReadyH.cons rfl (fun K hK => ?_) AllReadyH.nil)
         ·obtain ⟨⟨e0, e1⟩, f0, f1⟩ := box2e HX.out
          go_simp
          refine hK.out _ _ trivial (fun _ => ?_)
          clear hK K
          try simp only [Act.put, List.setIfInBounds_toArray, List.set_cons_zero, List.set_cons_succ]
          refine wpAnyH_done (by kernel_rfl) ?_ _
          go_wp2_with fail
          go_meet
          exact ⟨bx, tA, tC, rfl, ⟨box_set2 HX.out, HXB.out, htA, Nat.le_of_lt htC, (HD.out.set HXB.out.1 HXB.out.2 0 _).set HXB.out.1 HXB.out.2 1 _⟩⟩
     ·go_simp
      refine (cBelow 8 w0 a len cap b _ hlen HR.out HD.out.cur (by omega) (by omega)).mono ?_
      rintro e W2 ⟨x, rfl, hx, hC, hG⟩
      replace HX := hid ((hG.block bx (lt_of_heap HX.out) (fun e => by have := HXB.out.1; have := HD.out.lt; have := Option.some.inj e; omega)).trans HX.out)
      replace HD := hid (HD.out.draw hC hG)
      have hx8 : (x : Int) < 8 := by omega
      clear hC hG
      go_wp2_with fail
      refine hK.out _ _ trivial (fun _ => ?_)
      clear hK K
      try simp only [Act.put, List.setIfInBounds_toArray, List.set_cons_zero, List.set_cons_succ]
      generalize W2 = W at *
      refine wpAnyH_ready (rs := [0, 6]) (by kernel_rfl) (by simp) (AllReadyH.cons rfl (fun K hK => ?_) (AllReadyH.cons rfl (fun K hK => ?_) AllReadyH.nil))
      ·have HTB := hid (show ¬ W.heap.size = b by have := HD.out.gr.size; have := HD.out.lt; omega)
       go_simp
       refine hK.out _ _ trivial (fun _ => ?_)
       clear hK K
       try simp only [Act.put, List.setIfInBounds_toArray, List.set_cons_zero, List.set_cons_succ]
       have HT := hid (heap_alloc_new W (.cells #[.string ⟨#[97]⟩, .string ⟨#[120]⟩, .string ⟨#[112, 58, 97]⟩, .string ⟨#[113, 58, 97]⟩, .string ⟨#[112, 58, 120]⟩, .string ⟨#[110, 115]⟩, .string ⟨#[110, 115, 58, 112]⟩, .string ⟨#[73, 100]⟩] 9))
       replace HD := hid (HD.out.alloc (.cells #[.string ⟨#[97]⟩, .string ⟨#[120]⟩, .string ⟨#[112, 58, 97]⟩, .string ⟨#[113, 58, 97]⟩, .string ⟨#[112, 58, 120]⟩, .string ⟨#[110, 115]⟩, .string ⟨#[110, 115, 58, 112]⟩, .string ⟨#[73, 100]⟩] 9))
       replace HX := hid (blk_alloc HX.out (.cells #[.string ⟨#[97]⟩, .string ⟨#[120]⟩, .string ⟨#[112, 58, 97]⟩, .string ⟨#[113, 58, 97]⟩, .string ⟨#[112, 58, 120]⟩, .string ⟨#[110, 115]⟩, .string ⟨#[110, 115, 58, 112]⟩, .string ⟨#[73, 100]⟩] 9))
       generalize W.heap.size = tb at *
       generalize W.alloc (.cells #[.string ⟨#[97]⟩, .string ⟨#[120]⟩, .string ⟨#[112, 58, 97]⟩, .string ⟨#[113, 58, 97]⟩, .string ⟨#[112, 58, 120]⟩, .string ⟨#[110, 115]⟩, .string ⟨#[110, 115, 58, 112]⟩, .string ⟨#[73, 100]⟩] 9) = W at *
       refine wpAnyH_take (i := 3) (v := ?_) rfl (by kernel_rfl) (by kernel_rfl) (by kernel_rfl) (fun _ _ _ h => h) (Or.inl ⟨by rfl, ?_⟩) trivial ?_
       rotate_left
       ·intro w hSw
        go_simp
        try (with_reducible rfl)
       try simp only [Act.put, List.setIfInBounds_toArray, List.set_cons_zero, List.set_cons_succ]
       refine wpAnyH_ready (rs := [4, 6]) (by kernel_rfl) (by simp) (AllReadyH.cons rfl (fun K hK => ?_) (AllReadyH.cons rfl (fun K hK => ?_) AllReadyH.nil))
       ·obtain ⟨tA, hcA, htA⟩ := tabA_at _ tb x hx HT.out
        go_simp
        refine hK.out _ _ trivial (fun _ => ?_)
        clear hK K
        try simp only [Act.put, List.setIfInBounds_toArray, List.set_cons_zero, List.set_cons_succ]
        clear hcA
        refine wpAnyH_ready (rs := [6]) (by kernel_rfl) (by simp) (AllReadyH.cons rfl (fun K hK => ?_) AllReadyH.nil)
        ·go_simp
         refine (cText ⟨#[97, 98, 60, 38, 34, 62, 32, 49]⟩ 4 w0 a len cap b _ (by omega) (by omega) (by decide) (by decide) hlen HR.out HD.out.cur).mono ?_
         rintro e W3 ⟨tC, rfl, htC, hC, hG⟩
         replace HT := hid ((hG.block tb (lt_of_heap HT.out) (fun e => HTB.out (Option.some.inj e))).trans HT.out)
         replace HX := hid ((hG.block bx (lt_of_heap HX.out) (fun e => by have := HXB.out.1; have := HD.out.lt; have := Option.some.inj e; omega)).trans HX.out)
         replace HD := hid (HD.out.draw hC hG)
         clear hC hG
         go_wp2_with fail
         refine hK.out _ _ trivial (fun _ => ?_)
         clear hK K
         try simp only [Act.put, List.setIfInBounds_toArray, List.set_cons_zero, List.set_cons_succ]
         generalize W3 = W at *
         refine wpAnyH_take (i := 7) (v := ?_) rfl (by kernel_rfl) (by kernel_rfl) (by kernel_rfl) (fun _ _ _ h => h) (Or.inl ⟨by rfl, ?_⟩) trivial ?_
         rotate_left
         ·intro w hSw
          go_simp
          try (with_reducible rfl)
         try simp only [Act.put, List.setIfInBounds_toArray, List.set_cons_zero, List.set_cons_succ]
         refine wpAnyH_ready (rs := [9]) (by kernel_rfl) (by simp) (AllReadyH.cons rfl (fun K hK => ?_) AllReadyH.nil)
         ·obtain ⟨⟨e0, e1⟩, f0, f1⟩ := box2e HX.out
          go_simp
          refine hK.out _ _ trivial (fun _ => ?_)
          clear hK K
          try simp only [Act.put, List.setIfInBounds_toArray, List.set_cons_zero, List.set_cons_succ]
          refine wpAnyH_done (by kernel_rfl) ?_ _
          go_wp2_with fail
          go_meet
          exact ⟨bx, tA, tC, rfl, ⟨box_set2 HX.out, HXB.out, htA, Nat.le_of_lt htC, (HD.out.set HXB.out.1 HXB.out.2 0 _).set HXB.out.1 HXB.out.2 1 _⟩⟩
       ·go_simp
        refine (cText ⟨#[97, 98, 60, 38, 34, 62, 32, 49]⟩ 4 w0 a len cap b _ (by omega) (by omega) (by decide) (by decide) hlen HR.out HD.out.cur).mono ?_
        rintro e W3 ⟨tC, rfl, htC, hC, hG⟩
        replace HT := hid ((hG.block tb (lt_of_heap HT.out) (fun e => HTB.out (Option.some.inj e))).trans HT.out)
        replace HX := hid ((hG.block bx (lt_of_heap HX.out) (fun e => by have := HXB.out.1; have := HD.out.lt; have := Option.some.inj e; omega)).trans HX.out)
        replace HD := hid (HD.out.draw hC hG)
        clear hC hG
        go_wp2_with fail
        refine hK.out _ _ trivial (fun _ => ?_)
        clear hK K
        try simp only [Act.put, List.setIfInBounds_toArray, List.set_cons_zero, List.set_cons_succ]
        generalize W3 = W at *
        refine wpAnyH_ready (rs := [4]) (by kernel_rfl) (by simp) (AllReadyH.cons rfl (fun K hK => ?_) AllReadyH.nil)
        ·obtain ⟨tA, hcA, htA⟩ := tabA_at _ tb x hx HT.out
         go_simp
         refine hK.out _ _ trivial (fun _ => ?_)
         clear hK K
         try simp only [Act.put, List.setIfInBounds_toArray, List.set_cons_zero, List.set_cons_succ]
         clear hcA
         refine wpAnyH_take (i := 7) (v := ?_) rfl (by kernel_rfl) (by kernel_rfl) (by kernel_rfl) (fun _ _ _ h => h) (Or.inl ⟨by rfl, ?_⟩) trivial ?_
         rotate_left
         ·intro w hSw
          go_simp
          try (with_reducible rfl)
         try simp only [Act.put, List.setIfInBounds_toArray, List.set_cons_zero, List.set_cons_succ]
         refine wpAnyH_ready (rs := [9]) (by kernel_rfl) (by simp) (AllReadyH.cons rfl (fun K hK => ?_) AllReadyH.nil)
         ·obtain ⟨⟨e0, e1⟩, f0, f1⟩ := box2e HX.out
          go_simp
          refine hK.out _ _ trivial (fun _ => ?_)
          clear hK K
          try simp only [Act.put, List.setIfInBounds_toArray, List.set_cons_zero, List.set_cons_succ]
          refine wpAnyH_done (by kernel_rfl) ?_ _
          go_wp2_with fail
          go_meet
          exact ⟨bx, tA, tC, rfl, ⟨box_set2 HX.out, HXB.out, htA, Nat.le_of_lt htC, (HD.out.set HXB.out.1 HXB.out.2 0 _).set HXB.out.1 HXB.out.2 1 _⟩⟩
      ·go_simp
       refine (cText ⟨#[97, 98, 60, 38, 34, 62, 32, 49]⟩ 4 w0 a len cap b _ (by omega) (by omega) (by decide) (by decide) hlen HR.out HD.out.cur).mono ?_
       rintro e W3 ⟨tC, rfl, htC, hC, hG⟩
       replace HX := hid ((hG.block bx (lt_of_heap HX.out) (fun e => by have := HXB.out.1; have := HD.out.lt; have := Option.some.inj e; omega)).trans HX.out)
       replace HD := hid (HD.out.draw hC hG)
       clear hC hG
       go_wp2_with fail
       refine hK.out _ _ trivial (fun _ => ?_)
       clear hK K
       try simp only [Act.put, List.setIfInBounds_toArray, List.set_cons_zero, List.set_cons_succ]
       generalize W3 = W at *
       refine wpAnyH_ready (rs := [0]) (by kernel_rfl) (by simp) (AllReadyH.cons rfl (fun K hK => ?_) AllReadyH.nil)
       ·have HTB := hid (show ¬ W.heap.size = b by have := HD.out.gr.size; have := HD.out.lt; omega)
        go_simp
        refine hK.out _ _ trivial (fun _ => ?_)
        clear hK K
        try simp only [Act.put, List.setIfInBounds_toArray, List.set_cons_zero, List.set_cons_succ]
        have HT := hid (heap_alloc_new W (.cells #[.string ⟨#[97]⟩, .string ⟨#[120]⟩, .string ⟨#[112, 58, 97]⟩, .string ⟨#[113, 58, 97]⟩, .string ⟨#[112, 58, 120]⟩, .string ⟨#[110, 115]⟩, .string ⟨#[110, 115, 58, 112]⟩, .string ⟨#[73, 100]⟩] 9))
        replace HD := hid (HD.out.alloc (.cells #[.string ⟨#[97]⟩, .string ⟨#[120]⟩, .string ⟨#[112, 58, 97]⟩, .string ⟨#[113, 58, 97]⟩, .string ⟨#[112, 58, 120]⟩, .string ⟨#[110, 115]⟩, .string ⟨#[110, 115, 58, 112]⟩, .string ⟨#[73, 100]⟩] 9))
        replace HX := hid (blk_alloc HX.out (.cells #[.string ⟨#[97]⟩, .string ⟨#[120]⟩, .string ⟨#[112, 58, 97]⟩, .string ⟨#[113, 58, 97]⟩, .string ⟨#[112, 58, 120]⟩, .string ⟨#[110, 115]⟩, .string ⟨#[110, 115, 58, 112]⟩, .string ⟨#[73, 100]⟩] 9))
        generalize W.heap.size = tb at *
        generalize W.alloc (.cells #[.string ⟨#[97]⟩, .string ⟨#[120]⟩, .string ⟨#[112, 58, 97]⟩, .string ⟨#[113, 58, 97]⟩, .string ⟨#[112, 58, 120]⟩, .string ⟨#[110, 115]⟩, .string ⟨#[110, 115, 58, 112]⟩, .string ⟨#[73, 100]⟩] 9) = W at *
        refine wpAnyH_take (i := 3) (v := ?_) rfl (by kernel_rfl) (by kernel_rfl) (by kernel_rfl) (fun _ _ _ h => h) (Or.inl ⟨by rfl, ?_⟩) trivial ?_
        rotate_left
        ·intro w hSw
         go_simp
         try (with_reducible rfl)
        try simp only [Act.put, List.setIfInBounds_toArray, List.set_cons_zero, List.set_cons_succ]
        refine wpAnyH_ready (rs := [4]) (by kernel_rfl) (by simp) (AllReadyH.cons rfl (fun K hK => ?_) AllReadyH.nil)
        ·obtain ⟨tA, hcA, htA⟩ := tabA_at _ tb x hx HT.out
         go_simp
         refine hK.out _ _ trivial (fun _ => ?_)
         clear hK K
         try simp only [Act.put, List.setIfInBounds_toArray, List.set_cons_zero, List.set_cons_succ]
         clear hcA
         refine wpAnyH_take (i := 7) (v := ?_) rfl (by kernel_rfl) (by kernel_rfl) (by kernel_rfl) (fun _ _ _ h => h) (Or.inl ⟨by rfl, ?_⟩) trivial ?_
         rotate_left
         ·intro w hSw
          go_simp
          try (with_reducible rfl)
         try simp only [Act.put, List.setIfInBounds_toArray, List.set_cons_zero, List.set_cons_succ]
         refine wpAnyH_ready (rs := [9]) (by kernel_rfl) (by simp) (AllReadyH.cons rfl (fun K hK => ?_) AllReadyH.nil)
         ·obtain ⟨⟨e0, e1⟩, f0, f1⟩ := box2e HX.out
          go_simp
          refine hK.out _ _ trivial (fun _ => ?_)
          clear hK K
          try simp only [Act.put, List.setIfInBounds_toArray, List.set_cons_zero, List.set_cons_succ]
          refine wpAnyH_done (by kernel_rfl) ?_ _
          go_wp2_with fail
          go_meet
          exact ⟨bx, tA, tC, rfl, ⟨box_set2 HX.out, HXB.out, htA, Nat.le_of_lt htC, (HD.out.set HXB.out.1 HXB.out.2 0 _).set HXB.out.1 HXB.out.2 1 _⟩⟩
   case rest =>
    obtain ⟨bx, tA, tC, rfl, HX⟩ := hcut
    obtain ⟨hm, hxb, hs1, hs2, hd⟩ := HX.out
    have HM := hid hm
    have HXB := hid hxb
    have HDc := hid hd
    clear HX hm hxb hd HD
    obtain ⟨⟨e0, e1⟩, f0, f1⟩ := box2e HM.out
    have HSA := hid hs1
    obtain ⟨B1, hB1⟩ : ∃ B : Bool, (tA.toList == [110, 115]) = B := ⟨_, rfl⟩
    obtain ⟨B2, hB2⟩ : ∃ B : Bool, (tA.toList == [110, 115, 58, 112]) = B := ⟨_, rfl⟩
    obtain ⟨B3, hB3⟩ : ∃ B : Bool, (tA.toList == [73, 100]) = B := ⟨_, rfl⟩
    go_upto_region 8 with fail
    go_cut [46] from 27 to 72 (fun x wv => x = .bool (B1 || B2) /\ wv = wc)
    case first =>
     cases B1
     ·go_wp2_with fail
      go_meet
      exact ⟨rfl, rfl⟩
     ·go_wp2_with fail
      go_meet
      exact ⟨rfl, rfl⟩
    case rest =>
     obtain ⟨rfl, rfl⟩ := hcut
     obtain ⟨BB, hBB⟩ : ∃ B, (B1 || B2) = B := ⟨_, rfl⟩
     rw [hBB]
     clear hBB hB1 hB2
     go_upto_if 46 with fail
     go_cut [39] from 27 to 72 (fun x wv => ∃ y : ByteArray, Hid (wv.heap[bx]? = some (.cells #[.string tA, .string y] 67 (0, 0)) /\ y.size <= 5 /\ DSt w0 a len cap b w wv v l))
     case first =>
      have hbxb : ¬ bx = b := by have := HXB.out.1; have := HDc.out.lt; omega
      cases BB
      ·go_wp2_with fail
       go_meet
       exact ⟨tC, HM.out, by omega, HDc.out⟩
      ·go_wp2_with fail
       refine (cBelow 3 w0 a len cap b _ hlen HR.out (HDc.out.alloc _).cur (by omega) (by omega)).mono ?_
       rintro e w3 ⟨x, rfl, hx, hC3, hG3⟩
       have HD3 := hid ((HDc.out.alloc _).draw hC3 hG3)
       have HT3 := hid ((hG3.block wc.heap.size (by simp) (fun e => by have h4 : wc.heap.size = b := Option.some.inj e; have := HDc.out.gr.size; have := HDc.out.lt; omega)).trans (heap_alloc_new wc _))
       have HM3 := hid ((hG3.block bx (lt_of_heap (blk_alloc HM.out _)) (fun e => hbxb (Option.some.inj e))).trans (blk_alloc HM.out _))
       obtain ⟨t3, hc3, hs3⟩ := tab3_at w3 wc.heap.size x hx HT3.out
       have hx3 : (x : Int) < 3 := by omega
       clear e0 e1 f0 f1 hC3 hG3
       obtain ⟨⟨e0, e1⟩, f0, f1⟩ := box2e HM3.out
       go_wp2_with fail
       go_meet
       exact ⟨t3, box_set1 HM3.out, by omega, HD3.out.set HXB.out.1 HXB.out.2 1 _⟩
     case rest =>
      obtain ⟨y1, HX⟩ := hcut
      obtain ⟨hm, hs3, hd⟩ := HX.out
      have HM4 := hid hm
      have HD4 := hid hd
      clear HX hm hd HM HDc e0 e1 f0 f1
      obtain ⟨⟨e0, e1⟩, f0, f1⟩ := box2e HM4.out
      go_upto_if 55 with fail
      go_cut [39] from 27 to 72 (fun x wv => ∃ y : ByteArray, Hid (wv.heap[bx]? = some (.cells #[.string tA, .string y] 67 (0, 0)) /\ y.size <= 5 /\ DSt w0 a len cap b w wv v l))
      case first =>
       have hbxb : ¬ bx = b := by have := HXB.out.1; have := HD4.out.lt; omega
       cases B3
       ·go_wp2_with fail
        go_meet
        exact ⟨y1, HM4.out, by omega, HD4.out⟩
       ·go_wp2_with fail
        refine (cText ⟨#[48, 49, 50, 51, 52, 53]⟩ 3 w0 a len cap b _ (by omega) (by omega) (by decide) (by decide) hlen HR.out HD4.out.cur).mono ?_
        rintro e w3 ⟨t5, rfl, ht5, hC3, hG3⟩
        have HD3 := hid (HD4.out.draw hC3 hG3)
        have HM3 := hid ((hG3.block bx (lt_of_heap HM4.out) (fun e => hbxb (Option.some.inj e))).trans HM4.out)
        obtain ⟨S5, hS5⟩ : ∃ S, (⟨#[105]⟩ : ByteArray) ++ t5 = S := ⟨_, rfl⟩
        have hz5 : S5.size = 1 + t5.size := by rw [<- hS5, ByteArray.size_append]; rfl
        have hov : ¬ 9223372036854775807 < (⟨#[105]⟩ : ByteArray).size + t5.size := by rw [show (⟨#[105]⟩ : ByteArray).size = 1 from rfl]; omega
        have hz6 : S5.size <= 5 := by omega
        clear e0 e1 f0 f1 hC3 hG3 hz5
        obtain ⟨⟨e0, e1⟩, f0, f1⟩ := box2e HM3.out
        go_wp2_with fail
        go_meet
        exact ⟨S5, box_set1 HM3.out, hz6, HD3.out.set HXB.out.1 HXB.out.2 1 _⟩
      case rest =>
       obtain ⟨y2, HX⟩ := hcut
       obtain ⟨hm, hs4, hd⟩ := HX.out
       have HM5 := hid hm
       have HD5 := hid hd
       clear HX hm hd HM4 HD4 e0 e1 f0 f1
       obtain ⟨⟨e0, e1⟩, f0, f1⟩ := box2e HM5.out
       obtain ⟨a5, c5, hv5, hoa⟩ := HD5.out.row
       have CV := hid (cValueInS a5 c5 l tA wc hoa.atRow (fun x hx => by have := HD5.out.sz x hx; omega) (by omega) (by have := HSA.out; omega))
       obtain ⟨VF, hVF⟩ : ∃ VF, valF l tA = VF := ⟨_, rfl⟩
       rw [hVF] at CV
       subst hv5
       obtain ⟨L, hL⟩ : ∃ L, l.length = L := ⟨_, rfl⟩
       have HL := hid hL
       rw [hL] at CV hlk HXB HD5 ⊢
       obtain ⟨k1, rfl⟩ : ∃ k1, k = k1 + 1 := ⟨k - 1, by omega⟩
       clear hVF hL hoa
       cases VF with
       | some z =>
        go_wp2_with fail
        refine CV.out.mono ?_
        rintro e w4 ⟨rfl, rfl⟩
        go_wp2_with fail
        go_roundw
        case rel => exact ⟨k1, l, by go_num, by omega, by rw [HL.out]; omega, HD5.out⟩
        case measure => first | (simp [intOf]; omega) | simp [intOf]
       | none =>
        obtain ⟨i0, hi, hz0, hz1, hz2⟩ := info_parts infoAtW
        have HOA := hid (HD5.out.own.alloc (.cells #[.string tA, .string y2] 67))
        have HDA := hid (HD5.out.alloc (.cells #[.string tA, .string y2] 67))
        have HNE := hid (two_cells wc (.string tA) (.string y2) 67)
        have HON := hid (show ∀ u ∈ [Value.string tA, .string y2], u.oneCell' = true by
         intro u hu
         simp at hu
         rcases hu with rfl | rfl <;> rfl)
        have hwb := HD5.out.gr.size
        rw [HL.out] at HOA
        go_wp2_with fail
        refine CV.out.mono ?_
        rintro e w4 ⟨rfl, rfl⟩
        go_wp2_with (at_builtin; refine wpList_append_own _ rfl _ _ 30 rfl w.heap.size 67 i0 _ 2 32 Tryz.underlying30 hi hz0 hz1 hz2 rfl (by decide) _ _ _ rfl HOA.out ⟨w4.heap.size, 0, none⟩ 1 1 [.string tA, .string y2] rfl rfl ?c1 ?c2 ?c3 ?c4 ?c5 ?_)
        case c1 => exact HNE.out
        case c2 => exact HON.out
        case c3 => unfold maxLen; omega
        case c4 => omega
        case c5 => simp; omega
        intro v6 w6 hown6 hgrow6 _
        have HD6 := hid (HDA.out.join (m := [⟨tA, y2⟩]) (fun x hx => by
         rw [List.mem_singleton] at hx
         subst hx
         exact ⟨by show tA.size <= 20; have := HSA.out; omega, by show y2.size <= 20; omega⟩) (by rw [HL.out]; exact hown6) hgrow6)
        obtain ⟨a6, c6, hv6⟩ := own_len hown6
        subst hv6
        clear hown6 hgrow6
        go_wp2_with fail
        go_roundw
        case rel => exact ⟨k1, l ++ [(⟨tA, y2⟩ : At)], by go_num, by omega, by rw [List.length_append, HL.out]; simp; omega, HD6.out⟩
        case measure => first | (simp [intOf]; omega) | simp [intOf]

end Go.Proofs.YtoioiddjbanahaaGreatDoor

namespace Go.Proofs.YtoioiddjbanahaaGreatDoor

def nodeAt (ts : List Tk) (k : Nat) : Tk := match ts[k]? with | some t => t | none => ⟨0, ⟨#[]⟩, [], ⟨#[]⟩⟩

theorem nodeAt_at {ts : List Tk} {k : Nat} (h : k < ts.length) : nodeAt ts k = ts[k] := by unfold nodeAt; rw [List.getElem?_eq_getElem h]

theorem endN_stop {ts : List Tk} {k : Nat} (h : k < ts.length) : endN ts k = ts.length \/ parI ts (endN ts k) < (k : Int) := by
 rcases Nat.lt_or_ge (endN ts k) ts.length with h' | h'
 ·right
  by_cases q : parI ts (endN ts k) < (k : Int)
  ·exact q
  ·exfalso
   have hle := endN_le h
   have key : ∀ m, k + 1 + m <= ts.length -> ((ts.drop (k + 1)).takeWhile fun t => decide ((k : Int) <= t.kind)).length = m -> k + 1 + m < ts.length -> parI ts (k + 1 + m) < (k : Int) := by
    intro m hm hl hlt
    have hsub := List.takeWhile_append_dropWhile (p := fun t : Tk => decide ((k : Int) <= t.kind)) (l := ts.drop (k + 1))
    have hd : m < (ts.drop (k + 1)).length := by rw [List.length_drop]; omega
    have e1 : (ts.drop (k + 1))[m] = ts[k + 1 + m] := List.getElem_drop ..
    have hne : ((ts.drop (k + 1)).dropWhile fun t => decide ((k : Int) <= t.kind)) ≠ [] := by
     intro e0
     have := congrArg List.length hsub
     rw [List.length_append, e0, hl, List.length_nil] at this
     omega
    have hhd := List.head_dropWhile_not (fun t : Tk => decide ((k : Int) <= t.kind)) hne
    have e2 : ((ts.drop (k + 1)).dropWhile fun t => decide ((k : Int) <= t.kind)).head hne = ts[k + 1 + m] := by
     rw [<- e1, List.head_eq_getElem]
     have : (ts.drop (k + 1))[m]? = some (((ts.drop (k + 1)).dropWhile fun t => decide ((k : Int) <= t.kind))[0]'(List.length_pos_iff.2 hne)) := by
      conv => lhs; rw [<- hsub]
      rw [List.getElem?_append_right (by omega), hl, Nat.sub_self, List.getElem?_eq_getElem (List.length_pos_iff.2 hne)]
     rw [List.getElem?_eq_getElem hd] at this
     exact (Option.some.inj this).symm
    rw [e2] at hhd
    rw [parI_at hlt]
    simpa using hhd
   exact q (key _ hle.2 rfl h')
 ·left
  have := endN_le h
  omega

theorem endN_min {ts : List Tk} {k e : Nat} (hk : k < ts.length) (he : k < e) (hp : e < ts.length -> parI ts e < (k : Int)) (hle : e <= ts.length) : endN ts k <= e := by
 rcases Nat.lt_or_ge e (endN ts k) with h | h
 ·exfalso
  have h2 := endN_le hk
  have h3 := hp (by omega)
  have h4 : (k : Int) <= parI ts e := by
   have hm : e - (k + 1) < ((ts.drop (k + 1)).takeWhile fun t => decide ((k : Int) <= t.kind)).length := by unfold endN at h; omega
   have h5 := List.all_eq_true.1 (List.all_takeWhile (p := fun t : Tk => decide ((k : Int) <= t.kind)) (l := ts.drop (k + 1))) _ (List.getElem_mem hm)
   have e1 : ((ts.drop (k + 1)).takeWhile fun t => decide ((k : Int) <= t.kind))[e - (k + 1)] = (ts.drop (k + 1))[e - (k + 1)]'(by rw [List.length_drop]; omega) :=
    (List.takeWhile_prefix _).getElem hm
   rw [e1, List.getElem_drop] at h5
   have e2 : k + 1 + (e - (k + 1)) = e := by omega
   simp only [e2] at h5
   rw [parI_at (by omega)]
   simpa using h5
  omega
 ·exact h

theorem kid_end {ts : List Tk} {k i : Nat} (hk : k < ts.length) (hi : k < i) (hie : i < endN ts k) : endN ts i <= endN ts k /\ ∀ j, i < j -> j < ts.length -> parI ts j = (k : Int) -> endN ts i <= j := by
 have hle := endN_le hk
 refine ⟨?_, fun j hj hjn hp => ?_⟩
 ·rcases endN_stop hk with h | h
  ·rw [h]
   exact (endN_le (by omega)).2
  ·exact endN_min (by omega) hie (fun _ => by omega) hle.2
 ·exact endN_min (by omega) hj (fun _ => by omega) (by omega)

end Go.Proofs.YtoioiddjbanahaaGreatDoor
