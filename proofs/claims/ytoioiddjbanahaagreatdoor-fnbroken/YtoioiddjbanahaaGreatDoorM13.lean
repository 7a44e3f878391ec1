/-  -/
import Derived.Test.YtoioiddjbanahaaGreatDoorM12
import Derived.Test.YtoioiddjbanahaaGreatDoorM9
import Derived.Test.YtoioiddjbanahaaGreatDoorM7
import Derived.Test.YtoioiddjbanahaaGreatDoorM6
import Derived.Test.YtoioiddjbanahaaGreatDoorM8
set_option linter.unusedVariables false
set_option linter.unusedSimpArgs false
namespace Go.Proofs.YtoioiddjbanahaaGreatDoor

open Go.RowKit

theorem own_setG {w : World} {B : Nat} {a : Option Addr} {l : List At} (h : OwnAts w B a l) {p : Addr} (hp : p.block < B) (u : Value) : OwnAts (w.setCell p u) B a l := fun hl => by
 obtain ⟨g, o, cu, e1, e2, e3, e4⟩ := h hl
 refine ⟨g, o, cu, e1, e2, ?_, e4⟩
 rw [Below.heap_setCell _ _ _ _ (by omega)]
 exact e3

theorem own_lift {w : World} {B B' : Nat} {a : Option Addr} {l : List At} (h : OwnAts w B' a l) (hB : B <= B') : OwnAts w B a l := fun hl => by
 obtain ⟨g, o, cu, e1, e2, e3⟩ := h hl
 exact ⟨g, o, cu, e1, Nat.le_trans hB e2, e3⟩

def OwnC (w : World) (B : Nat) (a : Option Addr) (c : Nat) (l : List At) : Prop := OwnAts w B a l /\ w.ownsRow B 67 2 (.slice a l.length c) l.length (atC l)

theorem own_grownO {w w' : World} {B n s : Nat} {v : Value} {xs : List Value} {E e : TypeId} {row : Option Nat} (h : w.ownsRow B E s v n xs) (hg : w.grownBy w' row) (hr : ∀ k, row = some k -> ∃ c fz, w.heap[k]? = some (.cells c e fz)) (hE : E ≠ e) : w'.ownsRow B E s v n xs := by
 refine ⟨h.1, ?_⟩
 rcases h.2 with h' | ⟨g, cap, cur, h1, h2, h3, h4⟩
 ·exact .inl h'
 ·exact .inr ⟨g, cap, cur, h1, h2, blk_grownR h3 hg hr hE, h4⟩

theorem own_baseO {w : World} {B B' : Nat} {e : TypeId} {s n : Nat} {v : Value} {xs : List Value} (h : w.ownsRow B' e s v n xs) (hB : B <= B') : w.ownsRow B e s v n xs := by
 obtain ⟨h1, h2⟩ := h
 refine ⟨h1, ?_⟩
 rcases h2 with h | ⟨g, cp, cur, e1, e2, e3⟩
 ·exact .inl h
 ·exact .inr ⟨g, cp, cur, e1, Nat.le_trans hB e2, e3⟩

theorem OwnC.set {w : World} {B : Nat} {a : Option Addr} {c : Nat} {l : List At} (h : OwnC w B a c l) {p : Addr} (hp : p.block < B) (u : Value) : OwnC (w.setCell p u) B a c l := by
 refine ⟨own_setG h.1 hp u, h.2.1, ?_⟩
 rcases h.2.2 with h' | ⟨g, cp, cur, e1, e2, e3, e4⟩
 ·exact .inl h'
 ·exact .inr ⟨g, cp, cur, e1, e2, (Below.heap_setCell _ _ _ _ (by omega)).trans e3, e4⟩

theorem OwnC.lift {w : World} {B B' : Nat} {a : Option Addr} {c : Nat} {l : List At} (h : OwnC w B' a c l) (hB : B <= B') : OwnC w B a c l := ⟨own_lift h.1 hB, own_baseO h.2 hB⟩

theorem OwnC.below {w w' : World} {B : Nat} {a : Option Addr} {c : Nat} {l : List At} (h : OwnC w B a c l) (hb : Below w.heap.size w w') : OwnC w' B a c l := ⟨h.1.below hb, ownsRow_below h.2 hb⟩

structure OwnEs (w : World) (B : Nat) (es : List Nd.E) : Prop where
 own : ∀ e ∈ es, w.ownsRow B 67 2 (.slice e.a e.t.attrs.length e.cap) e.t.attrs.length (atC e.t.attrs)
 apo : es.Pairwise fun e f => ∀ k, (Value.slice e.a e.t.attrs.length e.cap).ownBlock = some k -> ¬ (Value.slice f.a f.t.attrs.length f.cap).ownBlock = some k

theorem OwnEs.none (w : World) (B : Nat) : OwnEs w B [] := ⟨fun e he => absurd he List.not_mem_nil, List.Pairwise.nil⟩

theorem OwnEs.below {w w' : World} {B : Nat} {es : List Nd.E} (h : OwnEs w B es) (hb : Below w.heap.size w w') : OwnEs w' B es := ⟨fun e he => ownsRow_below (h.own e he) hb, h.apo⟩

theorem OwnEs.mono {w : World} {B B' : Nat} {es : List Nd.E} (h : OwnEs w B' es) (hB : B <= B') : OwnEs w B es := ⟨fun e he => own_baseO (h.own e he) hB, h.apo⟩

theorem OwnEs.grown {w w' : World} {B : Nat} {es : List Nd.E} {row : Option Nat} (h : OwnEs w B es) (hg : w.grownBy w' row) (hr : ∀ k, row = some k -> ∃ c fz, w.heap[k]? = some (.cells c 32 fz)) : OwnEs w' B es := ⟨fun e he => own_grownO (h.own e he) hg hr (by decide), h.apo⟩

theorem OwnEs.snoc {w0 w : World} {B : Nat} {es : List Nd.E} {t : Tk} {a1 : Option Addr} {c1 : Nat} (h0 : OwnEs w0 B es) (hb : Below w0.heap.size w0 w) (hB : B <= w0.heap.size) (hA : OwnC w w0.heap.size a1 c1 t.attrs) : OwnEs w B (es ++ [⟨t, a1, c1⟩]) := by
 refine ⟨fun e he => ?_, ?_⟩
 ·rcases List.mem_append.1 he with h | h
  ·exact (h0.below hb).own e h
  ·rw [List.mem_singleton] at h
   subst h
   exact own_baseO hA.2 hB
 ·rw [List.pairwise_append]
  refine ⟨h0.apo, List.pairwise_singleton _ _, fun e he f hf k e1 e2 => ?_⟩
  rw [List.mem_singleton] at hf
  subst hf
  have h1 := ((h0.own e he).lt k e1).2
  have h2 := (hA.2.lt k e2).1
  omega

set_option maxHeartbeats 1000000 in
theorem cCopyO (a : Option Addr) (cap : Nat) (l : List At) (w : World) (hR : AtRow w a l) (hn : l.length <= 1048576) :
  Calls Tryz.prog 48 #[.slice a l.length cap] w fun e w' => ∃ a' c', e = .returned (.slice a' l.length c') /\ OwnC w' w.heap.size a' c' l /\ Below w.heap.size w w' := by
 obtain ⟨i0, hi, hz0, hz1, hz2⟩ := info_parts infoAtW
 have HB0 := hid ((Below.refl w.heap.size w).alloc (Nat.le_refl _) (.cells #[] 67))
 have HO : Hid ((w.alloc (.cells #[] 67)).ownsRow w.heap.size 67 2 (.slice (some ⟨w.heap.size, 0, none⟩) 0 0) 0 []) :=
  ⟨rfl, .inr ⟨w.heap.size, 0, #[], rfl, Nat.le_refl _, heap_alloc_new _ _, Nat.le_refl _, Nat.zero_le _, rfl, rfl⟩⟩
 by_cases h0 : l.length = 0
 ·have : l = [] := List.eq_nil_of_length_eq_zero h0
  subst this
  go_enter Tryz.func48, Tryz.ntmps48
  go_wp2_with (at_builtin; refine wpL_none _ rfl _ _ 30 67 i0 rfl Tryz.underlying30 hi _ _ _ rfl (Nat.le_refl _) a cap rfl ?_)
  go_ret
  exact ⟨_, _, rfl, ⟨fun h => absurd h (by simp), HO.out⟩, HB0.out⟩
 ·obtain ⟨b, o, rfl, hb, hcc⟩ := hR 0 (by omega)
  clear hcc
  have HR := hid (hR.below HB0.out)
  have HN := hid h0
  clear hR h0
  go_enter Tryz.func48, Tryz.ntmps48
  go_wp2_with (at_builtin; refine wpList_append_own_at _ rfl _ _ 30 rfl w.heap.size 67 i0 _ 2 32 Tryz.underlying30 hi hz0 hz1 hz2 rfl (by decide) _ 0 [] rfl HO.out ⟨b, o, none⟩ l.length cap (atC l) rfl (atC_len l) (atC_row HR.out) (atC_one l) ?c3 ?c4 ?c5 ?_)
  case c3 => unfold maxLen; omega
  case c4 => omega
  case c5 => simp
  intro v' w2 hown hgrow _ _
  have HB2 := hid (HB0.out.grown hgrow (by simp) (fun g hg => (HO.out.lt g hg).1))
  have HOW := hid (show w2.ownsRow w.heap.size 67 2 v' l.length (atC l) by simpa using hown)
  rcases hown.2 with ⟨_, h'⟩ | ⟨g, cp, cur, rfl, hg, hh, hn', hc, hs, ht⟩
  ·exact absurd h' HN.out
  ·have HA := hid (show OwnAts w2 w.heap.size (some ⟨g, 0, none⟩) l from fun _ => ⟨g, 0, cur, rfl, hg, hh, fun j hj => by
    obtain ⟨g1, g2⟩ := atC_get l j hj
    rw [<- ht, List.getElem?_take] at g1 g2
    refine ⟨?_, ?_⟩
    ·rw [Nat.zero_add, <- Array.getElem?_toList]
     split at g1
     ·exact g1
     ·cases g1
    ·rw [Nat.zero_add, <- Array.getElem?_toList]
     split at g2
     ·exact g2
     ·cases g2⟩)
   clear hown hgrow hh hc hs ht hg
   go_wp2
   go_ret
   exact ⟨_, _, rfl, ⟨HA.out, HOW.out⟩, HB2.out⟩

theorem box_set {w : World} {g : Nat} {cur : Array Value} {T : TypeId} (h : w.heap[g]? = some (.cells cur T (0, 0))) (j : Nat) (v : Value) : (w.setCell ⟨g, j, none⟩ v).heap[g]? = some (.cells (cur.setIfInBounds j v) T (0, 0)) := heap_setCell_same w g j cur T v h

theorem node_cells {w : World} {g : Nat} {t : Tk} {a1 : Option Addr} {c1 : Nat} (h : w.heap[g]? = some (.cells #[.int .i64 t.kind, .string t.name, .slice a1 t.attrs.length c1, .string t.text] 32 (0, 0))) :
  ∀ j u, (Nd.cs [⟨t, a1, c1⟩])[j]? = some u -> w.cell? ((⟨g, 0, none⟩ : Addr).add j) = some u := by
 intro j u hj
 rw [add_plainW, Nat.zero_add, Lib.cell_of_heap h]
 rw [Nd.cs_one] at hj
 match j, hj with
 | 0, hj => exact hj
 | 1, hj => exact hj
 | 2, hj => exact hj
 | 3, hj => exact hj

theorem wpL_node (W : World) {ops : Array Oper} {rest : List Oper} {o : Oper} {a : Act} {Q : Exit -> Act -> World -> Prop} (hgd : o.guard = none) (s x : Operand)
  (ho : o.op = .call { callee := .builtin .append, args := #[s, x], argTypes := #[24, 24] }) (base : Nat) (v : Value) (es : List Nd.E) (hs : a.eval s = v) (wr : World) (hrow : Nd.Row wr base v es) (hb0 : base <= wr.heap.size) (hB : Below wr.heap.size wr W)
  (t : Tk) (a1 : Option Addr) (c1 g : Nat) (hx : a.eval x = .slice (some ⟨g, 0, none⟩) 1 1) (hg : W.heap[g]? = some (.cells #[.int .i64 t.kind, .string t.name, .slice a1 t.attrs.length c1, .string t.text] 32 (0, 0))) (hA : OwnC W wr.heap.size a1 c1 t.attrs) (hn : es.length <= 1048576)
  (h : ∀ a' c' w', Nd.Row w' base (.slice a' (es ++ [(⟨t, a1, c1⟩ : Nd.E)]).length c') (es ++ [⟨t, a1, c1⟩]) -> Below base W w' -> W.grownBy w' v.ownBlock -> wpList Tryz.prog ops Q rest (a.put o.dst (.slice a' (es ++ [(⟨t, a1, c1⟩ : Nd.E)]).length c')) w') : wpList Tryz.prog ops Q (o :: rest) a W := by
 have hbW : base <= W.heap.size := Nat.le_trans hb0 hB.size
 refine Nd.wpL_join W hgd s x ho base v es [⟨t, a1, c1⟩] hs (hrow.below hB) g 1 1 hx rfl (node_cells hg) (fun e he => ?_) (List.pairwise_singleton _ _) (fun e he f hf => ?_) (by show es.length + 1 <= _; omega) hbW (fun a' c' w' h1 h2 h3 => h a' c' w' h1 h2 h3)
 ·rw [List.mem_singleton] at he
  subst he
  refine ⟨own_lift hA.1 hb0, fun g' o' hl e1 e2 => ?_⟩
  obtain ⟨g2, o2, cu, k1, k2, _⟩ := hA.1 hl
  rw [k1] at e1
  cases e1
  have := (hrow.own.lt _ e2).2
  omega
 ·rw [List.mem_singleton] at hf
  subst hf
  intro hl hl' g1 o1 g2 o2 e1 e2 e3
  obtain ⟨k, ko, cu, k1, k2, _⟩ := hA.1 hl'
  obtain ⟨m, mo, cm, m1, m2, m3, _⟩ := (hrow.ats e he).1 hl
  rw [k1] at e2
  rw [m1] at e1
  cases e1
  cases e2
  have := lt_of_heap m3
  omega

structure RowOf (w wr : World) (v : Value) (L : List Tk) : Prop where
 row : ∃ es a c, v = .slice a es.length c /\ Nd.Row wr w.heap.size (.slice a es.length c) es /\ es.map (·.t) = L /\ OwnEs wr w.heap.size es
 bel : Below w.heap.size w wr

theorem RowOf.open {w wr : World} {v : Value} {L : List Tk} (h : RowOf w wr v L) : ∃ es a c, v = .slice a es.length c /\ Nd.Row wr w.heap.size (.slice a es.length c) es /\ es.map (·.t) = L /\ es.length = L.length := by
 obtain ⟨es, a, c, e1, e2, e3, _⟩ := h.row
 exact ⟨es, a, c, e1, e2, e3, by rw [<- e3, List.length_map]⟩

theorem RowOf.tk {w wr : World} {v : Value} {L : List Tk} (h : RowOf w wr v L) : ∃ a c, v = .slice a L.length c /\ TkRow wr a L := by
 obtain ⟨es, a, c, rfl, hr, hm, hl⟩ := h.open
 obtain ⟨a2, c2, e, ht⟩ := hr.tkRow
 cases e
 rw [hm] at ht
 exact ⟨a, c, by rw [hl], ht⟩

theorem RowOf.start {w wr : World} (hb : Below w.heap.size w wr) {g : Nat} (hg : w.heap.size <= g) (hh : wr.heap[g]? = some (.cells #[] 32 (0, 0))) : RowOf w wr (.slice (some ⟨g, 0, none⟩) 0 0) [] :=
 ⟨⟨[], _, _, rfl, Nd.Row.start _ _ _ hg hh, rfl, OwnEs.none _ _⟩, hb⟩

theorem RowOf.below {w wr w' : World} {v : Value} {L : List Tk} (h : RowOf w wr v L) (hb : Below wr.heap.size wr w') : RowOf w w' v L := by
 obtain ⟨es, a, c, e1, e2, e3, e4⟩ := h.row
 exact ⟨⟨es, a, c, e1, e2.below hb, e3, e4.below hb⟩, bb h.bel hb⟩

theorem RowOf.more {w w' : World} {es : List Nd.E} {a : Option Addr} {c : Nat} {L : List Tk} {t : Tk} {a1 : Option Addr} {c1 : Nat} (hm : es.map (·.t) = L) (h : Nd.Row w' w.heap.size (.slice a (es ++ [(⟨t, a1, c1⟩ : Nd.E)]).length c) (es ++ [⟨t, a1, c1⟩])) (hO : OwnEs w' w.heap.size (es ++ [⟨t, a1, c1⟩])) (hb : Below w.heap.size w w') : RowOf w w' (.slice a (es ++ [(⟨t, a1, c1⟩ : Nd.E)]).length c) (L ++ [t]) :=
 ⟨⟨_, a, c, rfl, h, by rw [List.map_append, hm]; rfl, hO⟩, hb⟩

theorem wpL_row (w wr W : World) {ops : Array Oper} {rest : List Oper} {o : Oper} {a : Act} {Q : Exit -> Act -> World -> Prop} (hgd : o.guard = none) (s x : Operand)
  (ho : o.op = .call { callee := .builtin .append, args := #[s, x], argTypes := #[24, 24] }) (v : Value) (L : List Tk) (hs : a.eval s = v) (hrow : RowOf w wr v L) (hB : Below wr.heap.size wr W)
  (t : Tk) (a1 : Option Addr) (c1 g nA : Nat) (hx : a.eval x = .slice (some ⟨g, 0, none⟩) 1 1) (hnA : t.attrs.length = nA) (hg : W.heap[g]? = some (.cells #[.int .i64 t.kind, .string t.name, .slice a1 nA c1, .string t.text] 32 (0, 0))) (hA : OwnC W wr.heap.size a1 c1 t.attrs) (hn : L.length <= 1048576)
  (h : ∀ v' w', RowOf w w' v' (L ++ [t]) -> wpList Tryz.prog ops Q rest (a.put o.dst v') w') : wpList Tryz.prog ops Q (o :: rest) a W := by
 obtain ⟨es, a8, c8, rfl, hr, hm, hOE⟩ := hrow.row
 have hl : es.length = L.length := by rw [<- hm, List.length_map]
 subst hnA
 refine wpL_node W hgd s x ho w.heap.size _ es hs wr hr hrow.bel.size hB t a1 c1 g hx hg hA (by omega) (fun a' c' w' h1 h2 h3 => h _ w' (RowOf.more hm h1 ((hOE.snoc hB hrow.bel.size hA).grown h3 (hr.below hB).kind) ((hrow.bel.trans (hB.mono hrow.bel.size)).trans h2)))

set_option maxRecDepth 4000 in
set_option maxHeartbeats 4000000 in
theorem cCopyT (a : Option Addr) (cap : Nat) (ts : List Tk) (w : World) (hR : TkRow w a ts) (hn : ts.length <= 1048576) (hz : TksSz 1048576 ts) :
  Calls Tryz.prog 137 #[.slice a ts.length cap] w fun e w' => ∃ v, e = .returned v /\ RowOf w w' v ts := by
 have HR := hid hR
 have HZ := hid hz
 have HB0 := hid ((Below.refl w.heap.size w).alloc (Nat.le_refl _) (.cells #[] 32))
 have M0 := hid (heap_alloc_new w (.cells #[] 32))
 clear hR hz
 obtain ⟨n, hnn⟩ : ∃ n, ts.length = n := ⟨_, rfl⟩
 have HN := hid hnn
 rw [hnn] at hn ⊢
 clear hnn
 go_enter Tryz.func137, Tryz.ntmps137
 go_wp2_with fail
 go_loopw [3, 4] (fun v k wr => ∃ i : Nat, k = .int .i64 (i : Int) /\ i <= n /\ Hid (RowOf w wr v (ts.take i))) (fun _ k _ => n - (intOf k).toNat)
 case atStart => exact ⟨0, rfl, Nat.zero_le _, by rw [List.take_zero]; exact RowOf.start HB0.out (Nat.le_refl _) M0.out⟩
 case round =>
  clear HB0 M0
  obtain ⟨i, rfl, hi, HX⟩ := hrel
  by_cases hlt : i < n
  ·have his : i < ts.length := by rw [HN.out]; exact hlt
   have hin : (i : Int) < (n : Int) := by omega
   have HTS := hid (take_snocN his)
   have HLT := hid (show (ts.take i).length <= 1048576 by rw [List.length_take]; omega)
   have HZT := hid (HZ.out _ (List.getElem_mem his))
   obtain ⟨b, o, aa, ca, e', hb, q0, q1, q2, q3, hA⟩ := (HR.out.below HX.out.bel) i his
   subst e'
   have HAT := hid hA
   obtain ⟨t, ht⟩ : ∃ t, ts[i] = t := ⟨_, rfl⟩
   rw [ht] at q0 q1 q2 q3 HAT HZT HTS
   clear ht hA
   obtain ⟨nA, hnA⟩ : ∃ nA, t.attrs.length = nA := ⟨_, rfl⟩
   have HNA := hid hnA
   rw [hnA] at q2
   clear hnA
   have HL1 := hid ((Below.refl wr.heap.size wr).alloc (Nat.le_refl _) (.cells #[.int .i64 t.kind, .string t.name, .slice aa nA ca, .string t.text] 32))
   have M1 := hid (heap_alloc_new wr (.cells #[.int .i64 t.kind, .string t.name, .slice aa nA ca, .string t.text] 32))
   have CC := hid (fun wx (h : AtRow wx aa t.attrs) => cCopyO aa ca t.attrs wx h HZT.out.2.1)
   rw [HNA.out] at CC
   go_wp2_with fail
   refine (CC.out _ (HAT.out.below HL1.out)).mono ?_
   rintro e w2 ⟨a1, c1, rfl, ha1, hb2⟩
   have HA1 := hid (show OwnC w2 (wr.heap.size + 1) a1 c1 t.attrs by simpa using ha1)
   have HL2 := hid (bb HL1.out hb2)
   have M2 := hid (blk_below M1.out hb2)
   obtain ⟨⟨x0, x1, x2, x3⟩, f0, f1, f2, f3⟩ := box4 M2.out
   clear ha1 hb2 CC HL1 M1 q0 q1 q2 q3 hb
   have HS3 := hid (HL2.out.setCell (p := ⟨wr.heap.size, 2, none⟩) (Nat.le_refl _) (.slice a1 nA c1))
   have HA3 := hid (OwnC.lift (OwnC.set HA1.out (p := ⟨wr.heap.size, 2, none⟩) (Nat.lt_succ_self _) (.slice a1 nA c1)) (Nat.le_succ _))
   have M3 := hid (box_set M2.out 2 (.slice a1 nA c1))
   obtain ⟨w3, hw3⟩ : ∃ w3, w2.setCell ⟨wr.heap.size, 2, none⟩ (.slice a1 nA c1) = w3 := ⟨_, rfl⟩
   rw [hw3] at HS3 HA3 M3
   obtain ⟨⟨y0, y1, y2, y3⟩, _⟩ := box4 M3.out
   have HM4 := hid (heap_alloc_new w3 (.cells #[.int .i64 t.kind, .string t.name, .slice a1 nA c1, .string t.text] 32))
   have HB4 := hid (HS3.out.alloc HS3.out.size (.cells #[.int .i64 t.kind, .string t.name, .slice a1 nA c1, .string t.text] 32))
   have HA4 := hid (HA3.out.below ((Below.refl _ _).alloc (Nat.le_refl _) (.cells #[.int .i64 t.kind, .string t.name, .slice a1 nA c1, .string t.text] 32)))
   go_wp2_with (at_builtin; refine wpL_row w wr _ rfl _ _ rfl _ (ts.take i) rfl HX.out HB4.out t a1 c1 w3.heap.size nA rfl HNA.out HM4.out HA4.out HLT.out ?_)
   intro v5 w5 hr5
   have HR5 := hid hr5
   rw [<- HTS.out] at HR5
   clear hr5 x0 x1 x2 x3 y0 y1 y2 y3 hw3
   go_wp2_with fail
   go_roundw
   case rel => exact ⟨i + 1, by go_num, by omega, HR5.out⟩
   case measure => simp [intOf]; omega
  ·have hie : i = n := by omega
   subst hie
   have HY := hid (show RowOf w wr u3 ts by
    have h := HX.out
    rw [List.take_of_length_le (by rw [HN.out]; exact Nat.le_refl _)] at h
    exact h)
   clear HX
   go_wp2_with fail
   go_ret
   exact ⟨_, rfl, HY.out⟩

end Go.Proofs.YtoioiddjbanahaaGreatDoor

namespace Go.Proofs.YtoioiddjbanahaaGreatDoor

def ofB (signs : ByteArray) (most : Nat) (s : ByteArray) : Bool := s.data.toList.all (fun c => signs.data.toList.any fun d => decide (d = c)) && decide (s.size <= most)

def nsS : ByteArray := ⟨#[110, 115]⟩

def sgnS : ByteArray := ⟨#[97, 98, 99, 100, 101, 102, 103, 104, 105, 106, 107, 108, 109, 110, 111, 112, 113, 114, 115, 116, 117, 118, 119, 120, 121, 122, 48, 49, 50, 51, 52, 53, 54, 55, 56, 57, 47, 46]⟩

def preS (s : ByteArray) : ByteArray := ⟨(partP s.data.toList).toArray⟩

def locS (s : ByteArray) : ByteArray := ⟨(partL s.data.toList).toArray⟩

noncomputable def declF (x : At) : Option ByteArray := open Classical in if x.name = nsS then some ⟨#[]⟩ else if preS x.name = nsS then some (locS x.name) else none

noncomputable def rightB (x : At) : Bool := match declF x with
 | none => true
 | some p => ofB sgnS 20 x.value && (decide (p.size = 0) || !decide (x.value.size = 0))

noncomputable def declB (p : ByteArray) (x : At) : Bool := open Classical in decide (declF x = some p)

def upAts (ts : List Tk) (c : List Nat) : List At := c.flatMap fun j => match ts[j]? with | some t => t.attrs | none => []

noncomputable def meanL (l : List At) (p : ByteArray) : Option ByteArray :=
 if l.all rightB then (match l.find? (declB p) with | some x => some x.value | none => if p.size = 0 then some ⟨#[]⟩ else none) else none

noncomputable def meanF (ts : List Tk) (k : Nat) (p : ByteArray) : Option ByteArray := meanL (upAts ts (chainF ts (k + 1))) p

structure Held (l : List At) (p : ByteArray) (m : ByteArray) (found set : Bool) : Prop where
 right : l.all rightB = true
 isSet : set = (l.find? (declB p)).isSome
 isM : m = ((l.find? (declB p)).map (·.value)).getD ⟨#[]⟩
 isF : found = (decide (p.size = 0) || set)

theorem Held.start (p : ByteArray) : Held [] p ⟨#[]⟩ (decide (p.size = 0)) false := ⟨rfl, rfl, rfl, by rw [Bool.or_false]⟩

theorem Held.next {l : List At} {p m : ByteArray} {found set : Bool} (h : Held l p m found set) {x : At} (hr : rightB x = true) (hx : (declB p x && !set) = false) : Held (l ++ [x]) p m found set := by
 have e : (l ++ [x]).find? (declB p) = l.find? (declB p) := by
  rw [List.find?_append]
  cases hf : l.find? (declB p) with
  | some y => rfl
  | none =>
   have hs : set = false := by rw [h.isSet, hf]; rfl
   rw [hs] at hx
   simp at hx
   simp [hx]
 exact ⟨by rw [List.all_append, h.right]; simp [hr], by rw [e]; exact h.isSet, by rw [e]; exact h.isM, h.isF⟩

theorem Held.hit {l : List At} {p m : ByteArray} {found : Bool} (h : Held l p m found false) {x : At} (hr : rightB x = true) (hx : declB p x = true) : Held (l ++ [x]) p x.value true true := by
 have hn : l.find? (declB p) = none := by
  cases hf : l.find? (declB p) with
  | some y => have := h.isSet; rw [hf] at this; cases this
  | none => rfl
 have e : (l ++ [x]).find? (declB p) = some x := by
  rw [List.find?_append, hn]
  simp [hx]
 exact ⟨by rw [List.all_append, h.right]; simp [hr], by rw [e]; rfl, by rw [e]; rfl, by rw [Bool.or_true]⟩

theorem Held.fin {l : List At} {p m : ByteArray} {found set : Bool} (h : Held l p m found set) : (meanL l p).getD ⟨#[]⟩ = m /\ (meanL l p).isSome = found := by
 unfold meanL
 rw [if_pos h.right, h.isM, h.isF, h.isSet]
 cases hf : l.find? (declB p) with
 | some y => simp
 | none =>
  by_cases hp : p.size = 0
  ·simp [hp]
  ·simp [hp]

theorem mean_wrong {l : List At} {x : At} (hx : x ∈ l) (h : rightB x = false) (p : ByteArray) : meanL l p = none := by
 unfold meanL
 rw [if_neg]
 intro ha
 have := List.all_eq_true.1 ha x hx
 rw [h] at this
 cases this

theorem upAts_at {ts : List Tk} {c : List Nat} {m : Nat} (hm : m < c.length) (hc : c[m] < ts.length) : upAts ts (c.take (m + 1)) = upAts ts (c.take m) ++ ts[c[m]].attrs := by
 unfold upAts
 rw [List.take_succ_eq_append_getElem hm, List.flatMap_append]
 simp [List.getElem?_eq_getElem hc]

theorem upAts_mem {ts : List Tk} {c : List Nat} {m : Nat} (hm : m < c.length) (hc : c[m] < ts.length) {x : At} (hx : x ∈ ts[c[m]].attrs) : x ∈ upAts ts c := by
 unfold upAts
 exact List.mem_flatMap.2 ⟨c[m], List.getElem_mem hm, by rw [List.getElem?_eq_getElem hc]; exact hx⟩

end Go.Proofs.YtoioiddjbanahaaGreatDoor

namespace Go.Proofs.YtoioiddjbanahaaGreatDoor

open Go.RowKit

def inB (signs : ByteArray) (c : UInt8) : Bool := signs.data.toList.any fun d => decide (d = c)

theorem u8_beq (a b : UInt8) : ((a.toNat : Int) == (b.toNat : Int)) = decide (a = b) := by
 by_cases h : a = b
 ·subst h; simp
 ·rw [decide_eq_false h]
  have : ¬ a.toNat = b.toNat := fun e => h (UInt8.toNat_inj.1 e)
  simp
  omega

set_option maxHeartbeats 2000000 in
theorem c_spec_l1Of (signs : ByteArray) (most : Nat) (s : ByteArray) (w : World) (hs : s.size <= 1048576) (hg : signs.size <= 256) (hm : most <= 1000) :
  Calls Tryz.prog 79 #[.string s, .string signs, .int .i64 (most : Int)] w fun e w' => e = .returned (.bool (ofB signs most s)) /\ Below w.heap.size w w' := by
 obtain ⟨V, hV⟩ : ∃ V, ofB signs most s = V := ⟨_, rfl⟩
 have HV := hid hV
 rw [hV]
 clear hV
 go_enter Tryz.func79, Tryz.ntmps79
 go_wp2_with fail
 go_loopw [7] (fun k wr => ∃ i : Nat, k = .int .i64 (i : Int) /\ i <= s.size /\ Hid ((s.data.toList.take i).all (inB signs) = true) /\ Hid (Below w.heap.size w wr)) (fun k _ => s.size - (intOf k).toNat)
 case atStart => exact ⟨0, rfl, Nat.zero_le _, rfl, Below.refl _ _⟩
 case round =>
  obtain ⟨i, rfl, hi, HA, HB⟩ := hrel
  by_cases hlt : i < s.size
  ·have hin : (i : Int) < (s.size : Int) := by omega
   go_wp2_with fail
   go_loopw [8, 9] (fun v k wr => ∃ j : Nat, k = .int .i64 (j : Int) /\ j <= signs.size /\ v = .bool ((signs.data.toList.take j).any fun d => decide (d = s[i])) /\ Hid (Below w.heap.size w wr)) (fun _ k _ => signs.size - (intOf k).toNat)
   case atStart => exact ⟨0, rfl, Nat.zero_le _, rfl, HB.out⟩
   case round =>
    clear HB
    obtain ⟨j, rfl, hj, rfl, HB⟩ := hrel
    by_cases hjl : j < signs.size
    ·have hjn : (j : Int) < (signs.size : Int) := by omega
     have HE := hid (show (signs.data.toList.take (j + 1)).any (fun d => decide (d = s[i])) = ((signs.data.toList.take j).any (fun d => decide (d = s[i])) || decide (signs[j] = s[i])) by
      rw [take_snoc signs j hjl, List.any_append]
      simp)
     generalize (signs.data.toList.take j).any (fun d => decide (d = s[i])) = P at *
     have hq := u8_beq signs[j] s[i]
     generalize decide (signs[j] = s[i]) = D at *
     cases P
     ·go_wp2_with fail
      go_quiet (fail)
      go_wp2_with fail
      go_roundw
      case rel => exact ⟨j + 1, by go_num, by omega, by rw [HE.out]; rfl, below_drewN HB.out _⟩
      case measure => simp [intOf]; omega
     ·go_wp2_with fail
      go_quiet (fail)
      go_wp2_with fail
      go_roundw
      case rel => exact ⟨j + 1, by go_num, by omega, by rw [HE.out]; rfl, below_drewN HB.out _⟩
      case measure => simp [intOf]; omega
    ·have hje : j = signs.size := by omega
     subst hje
     rw [take_full signs _ (by omega)]
     have HI := hid (show signs.data.toList.any (fun d => decide (d = s[i])) = inB signs s[i] from rfl)
     rw [HI.out]
     cases hP : inB signs s[i]
     ·have HF := hid (show V = false by
       rw [<- HV.out]
       unfold ofB
       rw [Bool.and_eq_false_imp]
       intro h
       have h2 := List.all_eq_true.1 h s[i] (List.getElem_mem _)
       have h3 : inB signs s[i] = true := h2
       rw [hP] at h3
       cases h3)
      clear hP
      go_wp2_with fail
      go_ret
      exact ⟨by rw [HF.out]; rfl, HB.out⟩
     ·have HA2 := hid (show (s.data.toList.take (i + 1)).all (inB signs) = true by rw [take_snoc s i hlt, List.all_append, HA.out]; simp [hP])
      clear hP
      go_wp2_with fail
      go_roundw
      case rel => exact ⟨i + 1, by go_num, by omega, HA2.out, HB.out⟩
      case measure => simp [intOf]; omega
  ·have hie : i = s.size := by omega
   subst hie
   have hA := HA.out
   rw [take_full s _ (by omega)] at hA
   have HF := hid (show V = decide (s.size <= most) by
    rw [<- HV.out]
    unfold ofB
    have h : (s.data.toList.all fun c => signs.data.toList.any fun d => decide (d = c)) = true := hA
    rw [h, Bool.true_and])
   clear hA HA
   go_wp2_with fail
   go_ret
   exact ⟨by rw [HF.out]; rfl, HB.out⟩

theorem ns_beq (s : ByteArray) : (s.toList == [110, 115]) = decide (s = nsS) := by
 rw [<- str_beq]
 have e : nsS.toList = [110, 115] := by rw [ByteArray.toList_eq]; rfl
 rw [e]

theorem cPartsX (s : ByteArray) (w : World) (h0 : s.size <= 1048576) :
  Calls Tryz.prog 33 #[.string s] w fun e w' => e = .returned (.tuple #[.string (preS s), .string (locS s)]) /\ Below w.heap.size w w' := c_spec_Parts s w h0

set_option maxHeartbeats 2000000 in
theorem c_spec_l9Declares (x : At) (w : World) (hz : x.name.size <= 1048576) :
  Calls Tryz.prog 35 #[.agg #[.string x.name, .string x.value]] w fun e w' => e = .returned (.tuple #[.string ((declF x).getD ⟨#[]⟩), .bool (declF x).isSome]) /\ Below w.heap.size w w' := by
 have HB := hid ((Below.refl w.heap.size w).alloc (Nat.le_refl _) (.cells #[.string x.name, .string x.value] 67))
 by_cases h1 : x.name = nsS
 ·have HE := hid (show declF x = some ⟨#[]⟩ by unfold declF; rw [if_pos h1])
  rw [HE.out]
  have hd : (x.name.toList == [110, 115]) = true := by rw [ns_beq]; exact decide_eq_true h1
  clear h1
  generalize x.name = n at *
  generalize x.value = v at *
  go_enter Tryz.func35, Tryz.ntmps35
  go_wp2_with fail
  go_ret2
  exact ⟨rfl, HB.out⟩
 ·have hd : (x.name.toList == [110, 115]) = false := by rw [ns_beq]; exact decide_eq_false h1
  have C := hid (fun wx => cPartsX x.name wx hz)
  by_cases h2 : preS x.name = nsS
  ·have HE := hid (show declF x = some (locS x.name) by unfold declF; rw [if_neg h1, if_pos h2])
   rw [HE.out]
   have hd2 : ((preS x.name).toList == [110, 115]) = true := by rw [ns_beq]; exact decide_eq_true h2
   clear h1 h2 HE
   generalize preS x.name = P at *
   generalize locS x.name = L at *
   generalize x.name = n at *
   generalize x.value = v at *
   go_enter Tryz.func35, Tryz.ntmps35
   go_wp2_with fail
   refine (C.out _).mono ?_
   rintro e w1 ⟨rfl, hb1⟩
   have HB1 := hid (bb HB.out hb1)
   clear hb1 C
   go_wp2_with fail
   go_ret2
   exact ⟨rfl, HB1.out⟩
  ·have HE := hid (show declF x = none by unfold declF; rw [if_neg h1, if_neg h2])
   rw [HE.out]
   have hd2 : ((preS x.name).toList == [110, 115]) = false := by rw [ns_beq]; exact decide_eq_false h2
   clear h1 h2 HE
   generalize preS x.name = P at *
   generalize locS x.name = L at *
   generalize x.name = n at *
   generalize x.value = v at *
   go_enter Tryz.func35, Tryz.ntmps35
   go_wp2_with fail
   refine (C.out _).mono ?_
   rintro e w1 ⟨rfl, hb1⟩
   have HB1 := hid (bb HB.out hb1)
   clear hb1 C
   go_wp2_with fail
   go_ret2
   exact ⟨rfl, HB1.out⟩

theorem box_two (w : World) (x y : Value) (T : TypeId) : (w.alloc (.cells #[x, y] T)).cell? ⟨w.heap.size, 0, none⟩ = some x /\ (w.alloc (.cells #[x, y] T)).cell? ⟨w.heap.size, 1, none⟩ = some y /\ w.heap.size < (w.alloc (.cells #[x, y] T)).heap.size := by
 refine ⟨?_, ?_, by simp⟩
 ·rw [Lib.cell_of_heap (heap_alloc_new w _)]; rfl
 ·rw [Lib.cell_of_heap (heap_alloc_new w _)]; rfl

set_option maxHeartbeats 2000000 in
theorem c_spec_l9Right (x : At) (w : World) (hz : x.name.size <= 1048576) (hv : x.value.size <= 1048576) :
  Calls Tryz.prog 78 #[.agg #[.string x.name, .string x.value]] w fun e w' => e = .returned (.bool (rightB x)) /\ Below w.heap.size w w' := by
 have HB := hid ((Below.refl w.heap.size w).alloc (Nat.le_refl _) (.cells #[.string x.name, .string x.value] 67))
 have HX := hid (box_two w (.string x.name) (.string x.value) 67)
 have C := hid (fun wx => c_spec_l9Declares x wx hz)
 have CO := hid (fun wx => c_spec_l1Of sgnS 20 x.value wx hv (by decide) (by omega))
 have EV := empty_is x.value
 cases hd : declF x with
 | none =>
  have HE := hid (show rightB x = true by unfold rightB; rw [hd])
  rw [HE.out]
  rw [hd] at C
  clear hd HE CO EV
  generalize x.name = n at *
  generalize x.value = v at *
  go_enter Tryz.func78, Tryz.ntmps78
  go_wp2_with fail
  refine (C.out _).mono ?_
  rintro e w1 ⟨rfl, hb1⟩
  have HB1 := hid (bb HB.out hb1)
  clear hb1 C
  go_wp2_with fail
  go_ret
  exact ⟨rfl, HB1.out⟩
 | some p =>
  have HE := hid (show rightB x = (ofB sgnS 20 x.value && (decide (p.size = 0) || !decide (x.value.size = 0))) by unfold rightB; rw [hd])
  rw [HE.out]
  rw [hd] at C
  have EP := empty_is p
  clear hd HE
  generalize ofB sgnS 20 x.value = B at *
  generalize decide (p.size = 0) = D at *
  generalize decide (x.value.size = 0) = F at *
  generalize x.name = n at *
  generalize x.value = v at *
  unfold sgnS at CO
  go_enter Tryz.func78, Tryz.ntmps78
  go_wp2_with fail
  refine (C.out _).mono ?_
  rintro e w1 ⟨rfl, hb1⟩
  have HB1 := hid (bb HB.out hb1)
  have d2 := hid ((hb1.cell (p := ⟨w.heap.size, 1, none⟩) HX.out.2.2).trans HX.out.2.1)
  have d3 := hid (Nat.lt_of_lt_of_le HX.out.2.2 hb1.size)
  have d2' := d2.out
  clear hb1 C HB HX
  go_wp2_with fail
  refine (CO.out _).mono ?_
  rintro e w2 ⟨rfl, hb2⟩
  have HB2 := hid (bb HB1.out hb2)
  have e2 := (hb2.cell (p := ⟨w.heap.size, 1, none⟩) d3.out).trans d2.out
  clear hb2 CO HB1 d2' d2 d3
  cases B
  ·go_wp2_with fail
   go_ret
   exact ⟨rfl, HB2.out⟩
  ·cases D
   ·go_wp2_with fail
    go_ret
    exact ⟨by cases F <;> rfl, HB2.out⟩
   ·go_wp2_with fail
    go_ret
    exact ⟨rfl, HB2.out⟩

end Go.Proofs.YtoioiddjbanahaaGreatDoor

namespace Go.Proofs.YtoioiddjbanahaaGreatDoor

open Go.RowKit

theorem chain_at {ts : List Tk} (hT : TreeP ts) {k : Nat} (hk : k < ts.length) : (∀ m (h : m < (chainF ts (k + 1)).length), (chainF ts (k + 1))[m] < ts.length /\ parI ts (chainF ts (k + 1))[m] = kAt (chainF ts (k + 1)) (m + 1) /\ kAt (chainF ts (k + 1)) (m + 1) < ((chainF ts (k + 1))[m] : Int)) /\ kAt (chainF ts (k + 1)) 0 = (k : Int) := by
 have hL := linked_all k (fun j hj => (hT.2.2.2.2 j (by omega)).2.1)
 refine ⟨fun m h => ?_, rfl⟩
 have l1 := (linked_from hL.1 m h).1 hT.2.2.1
 refine ⟨by have := hL.2 _ (List.getElem_mem h); omega, ?_, ?_⟩
 ·rw [l1]
  by_cases h' : m + 1 < (chainF ts (k + 1)).length
  ·rw [dif_pos h', kAt_lt h']
  ·rw [dif_neg h']
   have : m + 1 = (chainF ts (k + 1)).length := by omega
   rw [this, kAt_end]
 ·by_cases h' : m + 1 < (chainF ts (k + 1)).length
  ·rw [kAt_lt h']
   have := linked_lt hL.1 m h'
   omega
  ·have : m + 1 = (chainF ts (k + 1)).length := by omega
   rw [this, kAt_end]
   omega

theorem chain_step {ts : List Tk} {c : List Nat} (h : ∀ m (h : m < c.length), c[m] < ts.length /\ parI ts c[m] = kAt c (m + 1) /\ kAt c (m + 1) < (c[m] : Int)) {m : Nat} (hm : m < c.length) :
  ∃ (x : Nat) (t : Tk), x < ts.length /\ kAt c m = (x : Int) /\ t.kind = kAt c (m + 1) /\ kAt c (m + 1) < (x : Int) /\ t ∈ ts /\ upAts ts (c.take (m + 1)) = upAts ts (c.take m) ++ t.attrs /\ (∀ y ∈ t.attrs, y ∈ upAts ts c) /\
   ∀ wx a, TkRow wx a ts -> ∃ b o aa cap, a = some ⟨b, o, none⟩ /\ b < wx.heap.size /\ wx.cell? ⟨b, o + x * 4, none⟩ = some (.int .i64 t.kind) /\ wx.cell? ⟨b, o + x * 4 + 2, none⟩ = some (.slice aa t.attrs.length cap) /\ AtRow wx aa t.attrs := by
 obtain ⟨h1, h2, h3⟩ := h m hm
 refine ⟨c[m], ts[c[m]], h1, kAt_lt hm, by rw [<- parI_at h1, h2], h3, List.getElem_mem h1, upAts_at hm h1, fun y hy => upAts_mem hm h1 hy, fun wx a hr => ?_⟩
 obtain ⟨b, o, aa, ca, e, hb, q0, q1, q2, q3, q4⟩ := hr c[m] h1
 exact ⟨b, o, aa, ca, e, hb, q0, q2, q4⟩

theorem kAt_ge (c : List Nat) (m : Nat) : -1 <= kAt c m := by unfold kAt; split <;> omega

set_option maxRecDepth 4000 in
set_option maxHeartbeats 4000000 in
theorem c_spec_l9Meaning (a : Option Addr) (cap : Nat) (ts : List Tk) (k : Nat) (p : ByteArray) (w : World) (hR : TkRow w a ts) (hT : TreeP ts) (hk : k < ts.length) (hn : ts.length <= 1048576) (hz : TksSz 1048576 ts) (hp : p.size <= 1048576) :
  Calls Tryz.prog 34 #[.slice a ts.length cap, .int .i64 (k : Int), .string p] w fun e w' => e = .returned (.tuple #[.string ((meanF ts k p).getD ⟨#[]⟩), .bool (meanF ts k p).isSome]) /\ Below w.heap.size w w' := by
 obtain ⟨V, hV⟩ : ∃ V, meanF ts k p = V := ⟨_, rfl⟩
 have HCH := hid (chain_at hT hk)
 unfold meanF at hV
 rw [show meanF ts k p = V from hV]
 generalize chainF ts (k + 1) = c at *
 have HV := hid hV
 have HR := hid hR
 have HZ := hid hz
 obtain ⟨b, o, _, _, ea, -⟩ := hR k hk
 subst ea
 clear hV hR hz hT
 have E := empty_is p
 have HS := hid (Held.start p)
 generalize decide (p.size = 0) = D at *
 obtain ⟨n, hnn⟩ : ∃ n, ts.length = n := ⟨_, rfl⟩
 have HN := hid hnn
 rw [hnn] at hn hk ⊢
 clear hnn
 go_enter Tryz.func34, Tryz.ntmps34
 go_wp2_with fail
 go_loopw [8, 9, 10, 11] (fun v8 v9 v10 v11 wr => ∃ (m : Nat) (mv : ByteArray) (fo se : Bool), v8 = .string mv /\ v9 = .bool fo /\ v10 = .bool se /\ Hid (v11 = .int .i64 (kAt c m) /\ m <= c.length) /\ Hid (Held (upAts ts (c.take m)) p mv fo se) /\ Hid (Below w.heap.size w wr)) (fun _ _ _ v11 _ => (intOf v11 + 1).toNat)
 case atStart => exact ⟨0, ⟨#[]⟩, D, false, rfl, rfl, rfl, ⟨by rw [HCH.out.2], Nat.zero_le _⟩, HS.out, Below.refl _ _⟩
 case round =>
  clear HS E
  obtain ⟨m, mv, fo, se, rfl, rfl, rfl, HM, HH, HB⟩ := hrel
  obtain ⟨rfl, hm⟩ := HM.out
  clear HM
  by_cases hml : m < c.length
  ·obtain ⟨x, t, hx, ek, hk2, hlt, hts, hup, hmem, hrow⟩ := chain_step HCH.out.1 hml
   rw [ek]
   have hxn : (x : Int) < (n : Int) := by have := HN.out; omega
   have HU := hid hup
   have HMEM := hid hmem
   have HK := hid (And.intro hlt (kAt_ge c (m + 1)))
   have HML := hid hml
   have HZT := hid (HZ.out _ hts)
   have HTK := hid hk2
   have HROW := hid (fun wx (hb : Below w.heap.size w wx) => hrow wx _ (HR.out.below hb))
   clear hup hmem hlt hml hts hk2 hrow ek hm hx
   obtain ⟨nA, hnA⟩ : ∃ nA, t.attrs.length = nA := ⟨_, rfl⟩
   have HNA := hid hnA
   have hnA1 : nA <= 1048576 := by rw [<- hnA]; exact HZT.out.2.1
   rw [hnA] at HROW
   clear hnA
   go_wp2_with fail
   go_loopw [8, 9, 10, 12] (fun v8 v9 v10 v12 wr => ∃ (j : Nat) (mv : ByteArray) (fo se : Bool), v8 = .string mv /\ v9 = .bool fo /\ v10 = .bool se /\ v12 = .int .i64 (j : Int) /\ j <= nA /\ Hid (Held (upAts ts (c.take m) ++ t.attrs.take j) p mv fo se) /\ Hid (Below w.heap.size w wr)) (fun _ _ _ v12 _ => nA - (intOf v12).toNat)
   case atStart => exact ⟨0, mv, fo, se, rfl, rfl, rfl, rfl, Nat.zero_le _, by rw [List.take_zero, List.append_nil]; exact HH.out, HB.out⟩
   case round =>
    clear HB HH
    obtain ⟨j, mv, fo, se, rfl, rfl, rfl, rfl, hj, HH, HB⟩ := hrel
    obtain ⟨b', o', aa, ca, e', hb, c0, c2, hA⟩ := HROW.out _ HB.out
    obtain ⟨rfl, rfl⟩ : b = b' /\ o = o' := by cases e'; exact ⟨rfl, rfl⟩
    clear e'
    by_cases hjl : j < nA
    ·have hjt : j < t.attrs.length := by rw [HNA.out]; exact hjl
     have hjn : (j : Int) < (nA : Int) := by omega
     obtain ⟨b2, o2, rfl, hb2, e1, e2⟩ := hA j hjt
     have HTS := hid (take_snocN hjt)
     have HMJ := hid (HMEM.out _ (List.getElem_mem hjt))
     have HSZ := hid (HZT.out.2.2.1 _ (List.getElem_mem hjt))
     obtain ⟨y, hy⟩ : ∃ y, t.attrs[j] = y := ⟨_, rfl⟩
     rw [hy] at e1 e2 HTS HMJ HSZ
     have CR := hid (fun wx => c_spec_l9Right y wx HSZ.out.1 HSZ.out.2)
     have CD := hid (fun wx => c_spec_l9Declares y wx HSZ.out.1)
     clear hy c0 hA
     have HBX := hid (HB.out.alloc HB.out.size (.cells #[.string y.name, .string y.value] 67))
     have HBOX := hid (box_two wr (.string y.name) (.string y.value) 67)
     go_wp2_with fail
     refine (CR.out _).mono ?_
     rintro e w1 ⟨rfl, hb1⟩
     have HB1 := hid (bb HBX.out hb1)
     have d1 := (hb1.cell (p := ⟨wr.heap.size, 0, none⟩) HBOX.out.2.2).trans HBOX.out.1
     have d2 := (hb1.cell (p := ⟨wr.heap.size, 1, none⟩) HBOX.out.2.2).trans HBOX.out.2.1
     have HD2 := hid d2
     have HLT := hid (Nat.lt_of_lt_of_le HBOX.out.2.2 hb1.size)
     clear hb1 HBX HBOX CR e1 e2 c2 hb hb2
     cases hr : rightB y with
     | false =>
      have HF := hid (show V = none by rw [<- HV.out]; exact mean_wrong HMJ.out hr p)
      clear hr CD
      go_wp2_with fail
      go_ret2
      exact ⟨by rw [HF.out]; rfl, HB1.out⟩
     | true =>
      have HRR := hid hr
      clear hr
      go_wp2_with fail
      refine (CD.out _).mono ?_
      rintro e w2 ⟨rfl, hb2⟩
      have HB2 := hid (bb HB1.out hb2)
      have d3 := (hb2.cell (p := ⟨wr.heap.size, 1, none⟩) HLT.out).trans HD2.out
      clear hb2 CD d1 d2 HD2 HLT HB1
      cases hd : declF y with
      | none =>
       have HN2 := hid (show Held (upAts ts (c.take m) ++ t.attrs.take (j + 1)) p mv fo se by
        rw [HTS.out, <- List.append_assoc]
        exact HH.out.next HRR.out (by unfold declB; rw [hd]; simp))
       clear hd
       go_wp2_with fail
       go_roundw
       case rel => exact ⟨j + 1, mv, fo, se, rfl, rfl, rfl, by go_num, by omega, HN2.out, HB2.out⟩
       case measure => simp [intOf]; omega
      | some q =>
       by_cases hq : q = p
       ·have hqq : (q.toList == p.toList) = true := by rw [str_beq]; exact decide_eq_true hq
        have hdb : declB p y = true := by unfold declB; rw [hd, hq]; simp
        cases se with
        | false =>
         have HN2 := hid (show Held (upAts ts (c.take m) ++ t.attrs.take (j + 1)) p y.value true true by
          rw [HTS.out, <- List.append_assoc]
          exact HH.out.hit HRR.out hdb)
         clear hd hq hdb
         go_wp2_with fail
         go_roundw
         case rel => exact ⟨j + 1, y.value, true, true, rfl, rfl, rfl, by go_num, by omega, HN2.out, HB2.out⟩
         case measure => simp [intOf]; omega
        | true =>
         have HN2 := hid (show Held (upAts ts (c.take m) ++ t.attrs.take (j + 1)) p mv fo true by
          rw [HTS.out, <- List.append_assoc]
          exact HH.out.next HRR.out (by rw [hdb]; rfl))
         clear hd hq hdb
         go_wp2_with fail
         go_roundw
         case rel => exact ⟨j + 1, mv, fo, true, rfl, rfl, rfl, by go_num, by omega, HN2.out, HB2.out⟩
         case measure => simp [intOf]; omega
       ·have hqq : (q.toList == p.toList) = false := by rw [str_beq]; exact decide_eq_false hq
        have HN2 := hid (show Held (upAts ts (c.take m) ++ t.attrs.take (j + 1)) p mv fo se by
         rw [HTS.out, <- List.append_assoc]
         exact HH.out.next HRR.out (by unfold declB; rw [hd]; simp [hq]))
        clear hd hq
        go_wp2_with fail
        go_roundw
        case rel => exact ⟨j + 1, mv, fo, se, rfl, rfl, rfl, by go_num, by omega, HN2.out, HB2.out⟩
        case measure => simp [intOf]; omega
    ·have ha : t.attrs.take j = t.attrs := List.take_of_length_le (by have := HNA.out; omega)
     have hje : j = nA := by omega
     have HH2 := hid (show Held (upAts ts (c.take (m + 1))) p mv fo se by
      rw [HU.out]
      have h := HH.out
      rw [ha] at h
      exact h)
     clear ha
     subst hje
     rw [HTK.out] at c0
     have HKK := hid HK.out
     obtain ⟨K, hK⟩ : ∃ K, kAt c (m + 1) = K := ⟨_, rfl⟩
     have HKE := hid hK
     rw [hK] at c0 HKK
     clear hK hA HK
     go_wp2_with fail
     go_roundw
     case rel => exact ⟨m + 1, mv, fo, se, rfl, rfl, rfl, ⟨by rw [HKE.out], HML.out⟩, HH2.out, HB.out⟩
     case measure => have := HKK.out; simp [intOf]; omega
  ·have hme : m = c.length := by omega
   subst hme
   rw [kAt_end]
   have hh := HH.out
   rw [List.take_of_length_le (Nat.le_refl _)] at hh
   obtain ⟨f1, f2⟩ := hh.fin
   rw [HV.out] at f1 f2
   have HF := hid (And.intro f1 f2)
   clear f1 f2 hh HH
   go_wp2_with fail
   go_ret2
   exact ⟨by rw [HF.out.1, HF.out.2]; rfl, HB.out⟩

end Go.Proofs.YtoioiddjbanahaaGreatDoor
