/-  -/
import Derived.Test.YtlpbbkaelbafdaaGreatDoorM10
import Derived.Test.YtlpbbkaelbafdaaGreatDoorM9
import Derived.Test.YtlpbbkaelbafdaaGreatDoorRows
import Derived.Test.YtlpbbkaelbafdaaGreatDoorM4
import Derived.Test.YtlpbbkaelbafdaaGreatDoorM1
import Derived.Test.YtlpbbkaelbafdaaGreatDoorM5
import Derived.Maps.AppendAt
import Derived.Deep.Upon
import Derived.WalkKit
import Derived.Deep.RegionHeld3
set_option linter.unusedVariables false
set_option linter.unusedSimpArgs false
namespace Go.Proofs.YtlpbbkaelbafdaaGreatDoor
open Go.RowKit

theorem step_app_at {P : Program} {ops : Array Oper} {o : Oper} {a : Act} {w : World} {K : Act -> World -> Prop} {Q : Exit -> Act -> World -> Prop} {E : Prop}
  (hg : o.guard = none) (s x : Operand) (t : TypeId) (hop : o.op = Op.call { callee := Callee.builtin Builtin.append, args := #[s, x], argTypes := #[t, t] })
  (base : Nat) (e : TypeId) (i : TypeInfo) (z : Value) (size bytes : Nat) (h1 : P.underlying t = some (.slice e)) (h2 : P.info? e = some i) (h3 : i.zero = some z) (h4 : i.size = size) (h5 : i.bytes = bytes) (h6 : z.cells.size = size) (h7 : 0 < size)
  (v : Value) (n : Nat) (xs : List Value) (hs : a.eval s = v) (hown : w.ownsRow base e size v n xs)
  (ad : Addr) (m c : Nat) (news : List Value) (hx : a.eval x = .slice (some ad) m c) (hn : news.length = m * size) (hc : ∀ j u, news[j]? = some u -> w.cell? (ad.add j) = some u) (h1c : ∀ u ∈ news, u.oneCell' = true)
  (b1 : n + m <= maxLen) (b2 : (n + m) * bytes <= 140737488355328) (b3 : base <= w.heap.size)
  (hK : ∀ v' w', w'.ownsRow base e size v' (n + m) (xs ++ news) -> w.grownBy w' v.ownBlock -> (v'.ownBlock = v.ownBlock \/ v'.ownBlock = some w.heap.size) -> K (a.put o.dst v') w') :
  if Region.wanted o (yielded ops a.tmps) = true then Oper.wp P o a w K Q else E := by
 have hw : Region.wanted o (yielded ops a.tmps) = true := by simp [Region.wanted, hg]
 rw [if_pos hw]
 obtain ⟨v', w', hrun, r1, r2, _, r3⟩ := run_append_own_at (P := P) w base t o.type e i z size bytes h1 h2 h3 h4 h5 h6 h7 v n xs hown ad m c news hn hc h1c b1 b2 b3
 unfold Oper.wp
 simp [execOp, hop, resolve, invoke, builtin, hs, hx, hrun, Result.andThen]
 exact hK v' w' r1 r2 r3

theorem two_cells (w : World) (x y : Value) (T : TypeId) : ∀ j u, [x, y][j]? = some u -> (w.alloc (.cells #[x, y] T)).cell? ((⟨w.heap.size, 0, none⟩ : Addr).add j) = some u := by
 intro j u hj
 match j, hj with
 | 0, hj => simp at hj; subst hj; simp [Addr.add]
 | 1, hj => simp at hj; subst hj; simp [Addr.add]

theorem box2e {w : World} {g : Nat} {x y : Value} {T : TypeId} (h : w.heap[g]? = some (.cells #[x, y] T (0, 0))) : (w.cell? ⟨g, 0, none⟩ = some x /\ w.cell? ⟨g, 1, none⟩ = some y) /\ (w.frozen? ⟨g, 0, none⟩ = false /\ w.frozen? ⟨g, 1, none⟩ = false) :=
 ⟨⟨by rw [Lib.cell_of_heap h]; rfl, by rw [Lib.cell_of_heap h]; rfl⟩, Lib.frozen_of_heap h 0, Lib.frozen_of_heap h 1⟩

theorem box_set2 {w1 : World} {b : Nat} {x y u v : Value} {T : TypeId} (h : w1.heap[b]? = some (.cells #[x, y] T (0, 0))) : ((w1.setCell ⟨b, 0, none⟩ u).setCell ⟨b, 1, none⟩ v).heap[b]? = some (.cells #[u, v] T (0, 0)) :=
 heap_setCell_same _ _ _ _ _ _ (heap_setCell_same w1 b 0 _ _ u h)

theorem atC_app (l m : List At) : atC (l ++ m) = atC l ++ atC m := by simp [atC]

theorem cell_grownR {w w' : World} {row : Option Nat} (h : w.grownBy w' row) {b o : Nat} {v : Value} (hc : w.cell? ⟨b, o, none⟩ = some v) (hb : b < w.heap.size) (hr : row ≠ some b) : w'.cell? ⟨b, o, none⟩ = some v :=
 (World.cell?_of_block (a := ⟨b, o, none⟩) (h.block b hb (fun e => hr e.symm))).trans hc

theorem blk_grownR {w w' : World} {row : Option Nat} {e T : TypeId} {b : Nat} {c : Array Value} (h : w.heap[b]? = some (.cells c T (0, 0))) (hg : w.grownBy w' row) (hr : ∀ k, row = some k -> ∃ c fz, w.heap[k]? = some (.cells c e fz)) (hT : T ≠ e) : w'.heap[b]? = some (.cells c T (0, 0)) :=
 (hg.block b (lt_of_heap h) (fun e1 => by
  obtain ⟨c2, fz2, h3⟩ := hr b e1.symm
  rw [h] at h3
  injection h3 with h3
  injection h3 with _ h4 _
  exact hT h4)).trans h

theorem Nd.Row.keepB {w w' : World} {B : Nat} {v : Value} {es : List Nd.E} {p : Nat -> Prop} (h : Nd.Row w B v es) (hk : KeepB p w w') (hp : ∀ k, p k -> ∀ c e fz, w.heap[k]? = some (.cells c e fz) -> e ≠ 42 /\ e ≠ 40) : Nd.Row w' B v es := by
 refine ⟨⟨h.own.1, ?_⟩, fun e he => ⟨fun hl => ?_, (h.ats e he).2⟩, h.apart⟩
 ·rcases h.own.2 with h' | ⟨g, cap, cur, h1, h2, h3, h4⟩
  ·exact .inl h'
  ·exact .inr ⟨g, cap, cur, h1, h2, (hk.block g (lt_of_heap h3) (fun hpg => (hp g hpg _ _ _ h3).1 rfl)).trans h3, h4⟩
 ·obtain ⟨g, o, cu, e1, e2, e3, e4⟩ := (h.ats e he).1 hl
  exact ⟨g, o, cu, e1, e2, (hk.block g (lt_of_heap e3) (fun hpg => (hp g hpg _ _ _ e3).2 rfl)).trans e3, e4⟩

theorem Nd.Row.kind {w : World} {B : Nat} {v : Value} {es : List Nd.E} (h : Nd.Row w B v es) : ∀ k, v.ownBlock = some k -> ∃ c fz, w.heap[k]? = some (.cells c 42 fz) := by
 intro k hk
 rcases h.own.2 with ⟨rfl, _⟩ | ⟨g, cap, cur, rfl, _, hh, _⟩
 ·cases hk
 ·have : g = k := Option.some.inj hk
  subst this
  exact ⟨_, _, hh⟩

end Go.Proofs.YtlpbbkaelbafdaaGreatDoor

namespace Go.Proofs.YtlpbbkaelbafdaaGreatDoor
open Go.RowKit

def KAts (w : World) (v : Value) (a : Option Addr) (l : List At) : Prop := 0 < l.length -> ∃ g o cu, a = some ⟨g, o, none⟩ /\ w.heap[g]? = some (.cells cu 40 (0, 0)) /\ AtCells cu o l /\ ¬ v.ownBlock = some g

def Kept (v : Value) (w : World) (v' : Value) (w' : World) : Prop := ∀ b o, w.heap[b]? = some o -> ¬ v.ownBlock = some b -> w'.heap[b]? = some o /\ ¬ v'.ownBlock = some b

theorem Kept.refl (v : Value) (w : World) : Kept v w v w := fun _ _ h k => ⟨h, k⟩

theorem Kept.trans {v1 v2 v3 : Value} {w1 w2 w3 : World} (h : Kept v1 w1 v2 w2) (k : Kept v2 w2 v3 w3) : Kept v1 w1 v3 w3 := fun b o hb hv => k b o (h b o hb hv).1 (h b o hb hv).2

theorem Kept.of_below {v : Value} {w w' : World} (hb : Below w.heap.size w w') : Kept v w v w' := fun b o h k => ⟨(hb.block b (lt_of_heap h)).trans h, k⟩

theorem KAts.kept {v v' : Value} {w w' : World} {a : Option Addr} {l : List At} (h : KAts w v a l) (k : Kept v w v' w') : KAts w' v' a l := fun hl => by
 obtain ⟨g, o, cu, e1, e2, e3, e4⟩ := h hl
 exact ⟨g, o, cu, e1, (k _ _ e2 e4).1, e3, (k _ _ e2 e4).2⟩

theorem KAts.below {v : Value} {w w' : World} {a : Option Addr} {l : List At} (h : KAts w v a l) (hb : Below w.heap.size w w') : KAts w' v a l := h.kept (Kept.of_below hb)

theorem KAts.nil (w : World) (v : Value) (a : Option Addr) : KAts w v a [] := fun h => absurd h (Nat.lt_irrefl 0)

structure KRow (B : Nat) (w : World) (v : Value) (L : List Tk) : Prop where
 row : ∃ es : List Nd.E, w.ownsRow B 42 4 v es.length (Nd.cs es) /\ es.map (·.t) = L /\ ∀ e ∈ es, KAts w v e.a e.t.attrs
 base : B <= w.heap.size

theorem KRow.below {B : Nat} {w w' : World} {v : Value} {L : List Tk} (h : KRow B w v L) (hb : Below w.heap.size w w') : KRow B w' v L := by
 obtain ⟨es, h1, h2, h3⟩ := h.row
 exact ⟨⟨es, ownsRow_below h1 hb, h2, fun e he => (h3 e he).below hb⟩, Nat.le_trans h.base hb.size⟩

theorem KRow.lt {B : Nat} {w : World} {v : Value} {L : List Tk} (h : KRow B w v L) {b : Nat} (e : v.ownBlock = some b) : B <= b /\ b < w.heap.size := by
 obtain ⟨es, h1, h2, h3⟩ := h.row
 exact h1.lt b e

theorem KRow.other {B : Nat} {w : World} {v : Value} {L : List Tk} (h : KRow B w v L) {b : Nat} (hb : w.heap.size <= b \/ b < B) : ¬ v.ownBlock = some b := fun e => by
 have := h.lt e
 omega

theorem KRow.slice {B : Nat} {w : World} {v : Value} {L : List Tk} (h : KRow B w v L) : ∃ a c, v = .slice a L.length c := by
 obtain ⟨es, h1, h2, h3⟩ := h.row
 have hl : es.length = L.length := by rw [<- h2, List.length_map]
 rcases h1.2 with ⟨e, h0⟩ | ⟨g, cap, cur, e, _⟩
 ·rw [<- hl, h0]
  exact ⟨_, _, e⟩
 ·rw [<- hl]
  exact ⟨_, _, e⟩

theorem KRow.tk {B : Nat} {w : World} {v : Value} {L : List Tk} (h : KRow B w v L) : ∃ a c, v = .slice a L.length c /\ TkRow w a L := by
 obtain ⟨es, h1, rfl, h3⟩ := h.row
 have hr : ∀ e ∈ es, AtRow w e.a e.t.attrs := fun e he j hj => by
  obtain ⟨g, o, cu, e1, e2, e3, _⟩ := h3 e he (Nat.lt_of_le_of_lt (Nat.zero_le _) hj)
  rw [e1]
  exact e3.atRow e2 j hj
 rw [List.length_map]
 rcases h1.2 with ⟨rfl, h0⟩ | ⟨g, cap, cur, rfl, hg, hh, hn, hc, hs, ht⟩
 ·exact ⟨none, 0, by rw [h0], fun j hj => by rw [List.length_map] at hj; omega⟩
 ·refine ⟨some ⟨g, 0, none⟩, cap, rfl, fun j hj => ?_⟩
  rw [List.length_map] at hj
  obtain ⟨k0, k1, k2, k3⟩ := Nd.cs_get es j hj
  have hx : ∀ k u, (Nd.cs es)[k]? = some u -> w.cell? ⟨g, 0 + k, none⟩ = some u := by
   intro k u hk
   rw [Lib.cell_of_heap hh, Nat.zero_add, <- Array.getElem?_toList]
   rw [<- ht, List.getElem?_take] at hk
   split at hk
   ·exact hk
   ·cases hk
  rw [List.getElem_map]
  exact ⟨g, 0, es[j].a, es[j].cap, rfl, lt_of_heap hh, hx _ _ k0, hx _ _ k1, hx _ _ k2, hx _ _ k3, hr _ (List.getElem_mem hj)⟩

theorem k_more {B : Nat} {w w' : World} {v v' : Value} {es : List Nd.E} {L : List Tk} {t : Tk} {a1 : Option Addr} {c1 : Nat} (hb : B <= w.heap.size) (h1 : w.ownsRow B 42 4 v es.length (Nd.cs es)) (hm : es.map (·.t) = L) (h3 : ∀ e ∈ es, KAts w v e.a e.t.attrs) (hA : KAts w v a1 t.attrs)
  (ho : w'.ownsRow B 42 4 v' (es.length + 1) (Nd.cs es ++ Nd.cs [⟨t, a1, c1⟩])) (hgr : w.grownBy w' v.ownBlock) (hw : v'.ownBlock = v.ownBlock \/ v'.ownBlock = some w.heap.size) :
  KRow B w' v' (L ++ [t]) /\ Kept v w v' w' /\ Below B w w' := by
 have key : Kept v w v' w' := fun b o h k => by
  refine ⟨(hgr.block b (lt_of_heap h) (fun x => k x.symm)).trans h, fun x => ?_⟩
  rcases hw with hw | hw
  ·exact k (hw.symm.trans x)
  ·rw [hw] at x
   have := lt_of_heap h
   have := Option.some.inj x
   omega
 refine ⟨⟨⟨es ++ [⟨t, a1, c1⟩], by rw [List.length_append, Nd.cs_app]; exact ho, by rw [List.map_append, hm]; rfl, fun e he => ?_⟩, Nat.le_trans hb hgr.size⟩, key, (Below.refl B w).grown hgr hb (fun k e => (h1.lt k e).1)⟩
 rcases List.mem_append.1 he with h' | h'
 ·exact (h3 e h').kept key
 ·rw [List.mem_singleton] at h'
  subst h'
  exact hA.kept key

theorem wpL_k (w : World) {ops : Array Oper} {rest : List Oper} {o : Oper} {a : Act} {Q : Exit -> Act -> World -> Prop} (hgd : o.guard = none) (s x : Operand)
  (ho : o.op = .call { callee := .builtin .append, args := #[s, x], argTypes := #[28, 28] }) (B : Nat) (v : Value) (L : List Tk) (hs : a.eval s = v) (hrow : KRow B w v L)
  (t : Tk) (a1 : Option Addr) (c1 g nA : Nat) (hx : a.eval x = .slice (some ⟨g, 0, none⟩) 1 1) (hnA : t.attrs.length = nA) (hg : w.heap[g]? = some (.cells #[.int .i64 t.kind, .string t.name, .slice a1 nA c1, .string t.text] 42 (0, 0))) (hA : KAts w v a1 t.attrs) (hn : L.length <= 1000000)
  (h : ∀ v' w', KRow B w' v' (L ++ [t]) /\ Kept v w v' w' /\ Below B w w' -> wpList Tryz.prog ops Q rest (a.put o.dst v') w') : wpList Tryz.prog ops Q (o :: rest) a w := by
 subst hnA
 obtain ⟨es, h1, rfl, h3⟩ := hrow.row
 rw [List.length_map] at hn
 obtain ⟨i0, hi, hz0, hz1, hz2⟩ := info_parts Nd.infoR
 refine wpList_append_own_at w hgd s x 28 ho B 42 i0 _ 4 64 Tryz.underlying28 hi hz0 hz1 hz2 rfl (by decide) v es.length (Nd.cs es) hs h1 ⟨g, 0, none⟩ 1 1 (Nd.cs [⟨t, a1, c1⟩]) hx (Nd.cs_len [⟨t, a1, c1⟩]) (node_cells hg) (Nd.cs_cell _) (by unfold maxLen; omega) (by omega) hrow.base ?_
 intro v' w' ho' hg' _ hw'
 exact h v' w' (k_more hrow.base h1 rfl h3 hA ho' hg' hw')

theorem step_k {ops : Array Oper} {o : Oper} {a : Act} {w : World} {K : Act -> World -> Prop} {Q : Exit -> Act -> World -> Prop} {F : Prop} (hgd : o.guard = none) (s x : Operand)
  (ho : o.op = .call { callee := .builtin .append, args := #[s, x], argTypes := #[28, 28] }) (B : Nat) (v : Value) (L : List Tk) (hs : a.eval s = v) (hrow : KRow B w v L)
  (t : Tk) (a1 : Option Addr) (c1 g nA : Nat) (hx : a.eval x = .slice (some ⟨g, 0, none⟩) 1 1) (hnA : t.attrs.length = nA) (hg : w.heap[g]? = some (.cells #[.int .i64 t.kind, .string t.name, .slice a1 nA c1, .string t.text] 42 (0, 0))) (hA : KAts w v a1 t.attrs) (hn : L.length <= 1000000)
  (h : ∀ v' w', KRow B w' v' (L ++ [t]) /\ Kept v w v' w' /\ Below B w w' -> K (a.put o.dst v') w') : if Region.wanted o (yielded ops a.tmps) = true then Oper.wp Tryz.prog o a w K Q else F := by
 subst hnA
 obtain ⟨es, h1, rfl, h3⟩ := hrow.row
 rw [List.length_map] at hn
 obtain ⟨i0, hi, hz0, hz1, hz2⟩ := info_parts Nd.infoR
 refine step_app_at hgd s x 28 ho B 42 i0 _ 4 64 Tryz.underlying28 hi hz0 hz1 hz2 rfl (by decide) v es.length (Nd.cs es) hs h1 ⟨g, 0, none⟩ 1 1 (Nd.cs [⟨t, a1, c1⟩]) hx (Nd.cs_len [⟨t, a1, c1⟩]) (node_cells hg) (Nd.cs_cell _) (by unfold maxLen; omega) (by omega) hrow.base ?_
 intro v' w' ho' hg' hw'
 exact h v' w' (k_more hrow.base h1 rfl h3 hA ho' hg' hw')

theorem KRow.later {B B' : Nat} {w : World} {v : Value} {L : List Tk} (h : KRow B' w v L) (hB : B <= B') : KRow B w v L := by
 obtain ⟨es, h1, h2, h3⟩ := h.row
 refine ⟨⟨es, ⟨h1.1, ?_⟩, h2, h3⟩, Nat.le_trans hB h.base⟩
 rcases h1.2 with h' | ⟨g, cap, cur, k1, k2, k3⟩
 ·exact .inl h'
 ·exact .inr ⟨g, cap, cur, k1, Nat.le_trans hB k2, k3⟩

end Go.Proofs.YtlpbbkaelbafdaaGreatDoor

namespace Go.Proofs.YtlpbbkaelbafdaaGreatDoor
open Go.RowKit

theorem c__impl_sign__itself (b : UInt8) (w : World) :
  Calls Tryz.prog 62 #[.int .u8 b.toNat] w fun e w' => e = .returned (.string ⟨#[b]⟩) /\ Below w.heap.size w w' := by
 have hown : (w.alloc (.cells #[.int .u8 b.toNat] 5)).ownsRow 0 5 1 (.slice (some ⟨w.heap.size, 0, none⟩) [b].length 1) [b].length (Lib.byteCells [b]) :=
  ⟨rfl, .inr ⟨w.heap.size, 1, #[.int .u8 b.toNat], rfl, Nat.zero_le _, heap_alloc_new w _, Nat.le_refl _, by decide, rfl, rfl⟩⟩
 have hrun := run_str_own (P := Tryz.prog) (src := 22) (dst := 9) Tryz.underlying22 Tryz.underlying5 Tryz.underlying9 hown
 have hr : (convert 22 9 (.slice (some ⟨w.heap.size, 0, none⟩) 1 1)).run Tryz.prog (w.alloc (.cells #[.int .u8 b.toNat] 5)) = .ok (.string ⟨#[b]⟩) (w.alloc (.cells #[.int .u8 b.toNat] 5)) := hrun
 clear hown hrun
 go_enter Tryz.func62, Tryz.ntmps62
 go_wp2
 go_ret
 exact ⟨rfl, (Below.refl _ _).alloc (Nat.le_refl _) _⟩

theorem c__impl_sign__itself_34 (w : World) : Calls Tryz.prog 62 #[.int .u8 34] w fun e w' => e = .returned (.string ⟨#[34]⟩) /\ Below w.heap.size w w' := c__impl_sign__itself 34 w
theorem c__impl_sign__itself_62 (w : World) : Calls Tryz.prog 62 #[.int .u8 62] w fun e w' => e = .returned (.string ⟨#[62]⟩) /\ Below w.heap.size w w' := c__impl_sign__itself 62 w

theorem ret_str {a b : List UInt8} (h : a = b) : Ending.returned (.string ⟨a.toArray⟩) = .returned (.string ⟨b.toArray⟩) := by rw [h]

end Go.Proofs.YtlpbbkaelbafdaaGreatDoor

namespace Go.Proofs.YtlpbbkaelbafdaaGreatDoor
open Go.RowKit

theorem q_itself (w : World) : Calls Tryz.prog 62 #[.int .u8 58] w fun e w' => e = .returned (.string ⟨#[58]⟩) /\ Below w.heap.size w w' := c__impl_sign__itself 58 w

def cName (s : ByteArray) : ByteArray := (⟨#[99, 58]⟩ : ByteArray) ++ s

set_option maxHeartbeats 2000000 in
theorem cClaimName (s : ByteArray) (w : World) (hs : s.size <= 1048576) :
  Calls Tryz.prog 19 #[.string s] w fun e w' => e = .returned (.string (cName s)) /\ Below w.heap.size w w' := by
 have C := hid q_itself
 unfold cName
 obtain ⟨N, hN⟩ : ∃ N, (⟨#[99, 58]⟩ : ByteArray) ++ s = N := ⟨_, rfl⟩
 rw [hN]
 have e1 : (⟨#[99]⟩ : ByteArray) ++ ⟨#[58]⟩ = ⟨#[99, 58]⟩ := rfl
 have z1 : (⟨#[99]⟩ : ByteArray).size + (⟨#[58]⟩ : ByteArray).size <= 9223372036854775807 := by decide
 have z2 : (⟨#[99, 58]⟩ : ByteArray).size + s.size <= 9223372036854775807 := by
  have : (⟨#[99, 58]⟩ : ByteArray).size = 2 := rfl
  omega
 go_enter Tryz.func19, Tryz.ntmps19
 go_wp2_with fail
 refine (C.out _).mono ?_
 rintro e w1 ⟨rfl, hb1⟩
 have HB1 := hid hb1
 clear hb1
 go_wp2_with fail
 go_ret
 exact ⟨rfl, HB1.out⟩

theorem q_box2 {w : World} {g : Nat} {x y : Value} {T : TypeId} (h : w.heap[g]? = some (.cells #[x, y] T (0, 0))) : (w.cell? ⟨g, 0, none⟩ = some x /\ w.cell? ⟨g, 1, none⟩ = some y) /\ w.frozen? ⟨g, 0, none⟩ = false /\ w.frozen? ⟨g, 1, none⟩ = false :=
 ⟨⟨by rw [Lib.cell_of_heap h]; rfl, by rw [Lib.cell_of_heap h]; rfl⟩, Lib.frozen_of_heap h 0, Lib.frozen_of_heap h 1⟩

set_option maxHeartbeats 2000000 in
theorem cDecl (w : World) :
  Calls Tryz.prog 20 #[.string ⟨#[99]⟩, .string claimS] w fun e w' => e = .returned (.agg #[.string nsCS, .string claimS]) /\ Below w.heap.size w w' := by
 have HB0 := hid ((Below.refl w.heap.size w).alloc (Nat.le_refl _) (.cells #[.string ⟨#[]⟩, .string ⟨#[]⟩] 40))
 have M1 := hid (heap_alloc_new w (.cells #[.string ⟨#[]⟩, .string ⟨#[]⟩] 40))
 have E : (⟨#[99]⟩ : ByteArray).toList.isEmpty = false := by rw [empty_is]; rfl
 have C := hid q_itself
 generalize claimS = m
 have e1 : (⟨#[110, 115]⟩ : ByteArray) ++ ⟨#[58]⟩ = ⟨#[110, 115, 58]⟩ := rfl
 have e2 : (⟨#[110, 115, 58]⟩ : ByteArray) ++ ⟨#[99]⟩ = nsCS := rfl
 have z1 : (⟨#[110, 115]⟩ : ByteArray).size + (⟨#[58]⟩ : ByteArray).size <= 9223372036854775807 := by decide
 have z2 : (⟨#[110, 115, 58]⟩ : ByteArray).size + (⟨#[99]⟩ : ByteArray).size <= 9223372036854775807 := by decide
 go_enter Tryz.func20, Tryz.ntmps20
 go_wp2_with fail
 refine (C.out _).mono ?_
 rintro e w1 ⟨rfl, hb1⟩
 have HB1 := hid (bb HB0.out hb1)
 obtain ⟨⟨y0, y1⟩, f0, f1⟩ := q_box2 (blk_below M1.out hb1)
 clear hb1
 go_wp2_with fail
 refine bodyPost_ret (v := .agg #[.string nsCS, .string m]) (by simp [results, Tryz.results20, go_sem, y0, y1]) rfl ⟨rfl, ?_⟩
 iterate 2 refine Below.setCell ?_ (show w.heap.size <= w.heap.size from Nat.le_refl _) _
 exact HB1.out

set_option maxRecDepth 8000 in
set_option maxHeartbeats 4000000 in
theorem cWithKid (B : Nat) (w : World) (v : Value) (L : List Tk) (loc : ByteArray) (x : Say) (a1 : Option Addr) (c1 : Nat) (hrow : KRow B w v L) (hA : KAts w v a1 x.attrs) (hl : loc.size <= 1000) (hn : L.length <= 100000) :
  Calls Tryz.prog 22 #[v, .string loc, .agg #[.slice a1 x.attrs.length c1, .string x.text]] w fun e w' => ∃ v', e = .returned v' /\ KRow B w' v' (addN L (cName loc) x) /\ Kept v w v' w' /\ Below B w w' := by
 have CN := hid (fun wx => cClaimName loc wx (by omega))
 have E := empty_is x.text
 obtain ⟨nA, hnA⟩ : ∃ nA, x.attrs.length = nA := ⟨_, rfl⟩
 have HNA := hid hnA
 rw [hnA]
 obtain ⟨a8, c8, hv⟩ := hrow.slice
 have HV := hid hv
 have HN := hid hn
 have HB0 := hid ((Below.refl w.heap.size w).alloc (Nat.le_refl _) (.cells #[.slice a1 nA c1, .string x.text] 54))
 have M0 := hid (heap_alloc_new w (.cells #[.slice a1 nA c1, .string x.text] 54))
 obtain ⟨w0, hw0⟩ : ∃ w0, w.alloc (.cells #[.slice a1 nA c1, .string x.text] 54) = w0 := ⟨_, rfl⟩
 rw [hw0] at HB0 M0
 have HR0 := hid (hrow.below HB0.out)
 have HA0 := hid (hA.below HB0.out)
 have HO0 := hid (hrow.other (.inl (Nat.le_refl w.heap.size)))
 have HBB := hid hrow.base
 obtain ⟨bx, hbx⟩ : ∃ bx, w.heap.size = bx := ⟨_, rfl⟩
 rw [hbx] at M0 HO0
 subst hv
 obtain ⟨n, hn2⟩ : ∃ n, L.length = n := ⟨_, rfl⟩
 have HLn := hid hn2
 rw [hn2] at HN HR0 HA0 HO0 ⊢
 clear hrow hA hl hn hnA hn2
 go_enter Tryz.func22, Tryz.ntmps22
 go_wp2_with fail
 have HBc := hid ((Below.refl w0.heap.size w0).drew)
 have HSX := hid (show ∀ W', Below w0.heap.size w0 W' -> W'.cell? ⟨bx, 0, none⟩ = some (.slice a1 nA c1) /\ W'.cell? ⟨bx, 1, none⟩ = some (.string x.text) from fun W' hb => (q_box2 (blk_below M0.out hb)).1)
 have HFX := hid (show ∀ W v' W', Below w0.heap.size w0 W -> Kept (.slice a8 n c8) W v' W' -> W'.cell? ⟨bx, 0, none⟩ = some (.slice a1 nA c1) /\ W'.cell? ⟨bx, 1, none⟩ = some (.string x.text) from fun W v' W' hb hk => (q_box2 (hk _ _ (blk_below M0.out hb) HO0.out).1).1)
 go_region_held3 (fun w' => w'.cell? ⟨bx, 0, none⟩ = some (.slice a1 nA c1) /\ w'.cell? ⟨bx, 1, none⟩ = some (.string x.text)) (first | exact HS6.out | exact HSX.out _ HBc.out | exact HSX.out _ (HBc.out.alloc HBc.out.size _))
  (first
   | (go_at_call 19; refine (CN.out _).mono ?_; rintro e w1 ⟨rfl, hb1⟩; replace HBc := hid (bb HBc.out hb1); clear hb1)
   | (refine step_k rfl (.tmp 10) (.tmp 16) rfl B (.slice a8 n c8) L (by simp [Act.eval, Act.put]) (HR0.out.below (HBc.out.alloc HBc.out.size _)) ⟨0, cName loc, x.attrs, nE⟩ a1 c1 _ nA (by simp [Act.eval, Act.put]) HNA.out (heap_alloc_new _ _) (HA0.out.below (HBc.out.alloc HBc.out.size _)) (by have := HLn.out; have := HN.out; omega) ?_; rintro v6 w6 ⟨hr6, hk6, hb6⟩; have HS6 := hid (HFX.out _ _ _ (HBc.out.alloc HBc.out.size _) hk6); have HR6 := hid hr6; have HK6 := hid ((Kept.of_below (bb HB0.out (HBc.out.alloc HBc.out.size _))).trans hk6); have HB6 := hid (((bb HB0.out (HBc.out.alloc HBc.out.size _)).mono HBB.out).trans hb6); clear hr6 hk6 hb6))
 obtain ⟨f0, f1⟩ := HS6.out
 obtain ⟨a9, c9, hv9⟩ := HR6.out.slice
 have hl1 : (L ++ [(⟨0, cName loc, x.attrs, nE⟩ : Tk)]).length = n + 1 := by have := HLn.out; simp; omega
 rw [hl1] at hv9
 by_cases ht : x.text.size = 0
 ·rw [decide_eq_true ht] at E
  have HE := hid (show addN L (cName loc) x = L ++ [⟨0, cName loc, x.attrs, nE⟩] from if_pos ht)
  clear ht hw0 hv9
  go_wp2_with fail
  go_ret
  exact ⟨v6, rfl, by rw [HE.out]; exact HR6.out, HK6.out, HB6.out⟩
 ·rw [decide_eq_false ht] at E
  have HE := hid (show addN L (cName loc) x = L ++ [⟨0, cName loc, x.attrs, nE⟩] ++ [⟨(n : Int), nE, [], x.text⟩] by rw [<- HLn.out]; exact if_neg ht)
  have HBX := hid ((Below.refl w6.heap.size w6).alloc (Nat.le_refl _) (.cells #[.int .i64 (n : Int), .string nE, .slice none 0 0, .string x.text] 42))
  have HH1 := hid (heap_alloc_new w6 (.cells #[.int .i64 (n : Int), .string nE, .slice none 0 0, .string x.text] 42))
  obtain ⟨W1, hW1⟩ : ∃ W, w6.alloc (.cells #[.int .i64 (n : Int), .string nE, .slice none 0 0, .string x.text] 42) = W := ⟨_, rfl⟩
  rw [hW1] at HBX HH1
  obtain ⟨s1, hs1⟩ : ∃ sz, w6.heap.size = sz := ⟨_, rfl⟩
  rw [hs1] at HH1
  have HLn2 := hid (show (L ++ [(⟨0, cName loc, x.attrs, nE⟩ : Tk)]).length <= 1000000 by have := HN.out; omega)
  have HR7 := hid (HR6.out.below HBX.out)
  have HK7 := hid (HK6.out.trans (Kept.of_below HBX.out))
  have HB7 := hid (HB6.out.trans (HBX.out.mono HR6.out.base))
  unfold nE at hW1
  subst hv9
  clear ht hw0 hl1
  go_wp2_with (at_builtin; refine wpL_k W1 rfl _ _ rfl B (.slice a9 (n + 1) c9) (L ++ [⟨0, cName loc, x.attrs, nE⟩]) rfl HR7.out ⟨(n : Int), nE, [], x.text⟩ none 0 s1 0 rfl rfl HH1.out (KAts.nil _ _ _) HLn2.out ?_)
  intro v8 w8 hr8 hk8 hb8
  have HR8 := hid hr8
  have HK8 := hid (HK7.out.trans hk8)
  have HB8 := hid (HB7.out.trans hb8)
  clear hr8 hk8 hb8
  go_wp2_with fail
  go_ret
  exact ⟨v8, rfl, by rw [HE.out, List.append_assoc]; exact HR8.out, HK8.out, HB8.out⟩

end Go.Proofs.YtlpbbkaelbafdaaGreatDoor
