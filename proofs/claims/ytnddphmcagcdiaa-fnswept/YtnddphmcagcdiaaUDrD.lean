/- The draws of a table, an id and a time. -/
import Derived.Test.YtnddphmcagcdiaaUDrC
namespace Go.Proofs.Ytnddphmcagcdiaa
open Go.RowKit
set_option linter.unusedVariables false
set_option linter.unusedSimpArgs false

theorem RoRow.of {w w' : World} {a : Option Addr} {l : List Ro} (h : RoRow w a l) (hs : w.heap.size ≤ w'.heap.size) (hk : ∀ g f s, g < w.heap.size → w.cell? ⟨g, f, none⟩ = some (.string s) → w'.heap[g]? = w.heap[g]?) : RoRow w' a l := by
  intro j hj
  obtain ⟨b, o, ha, hlt, hc, hd⟩ := h j hj
  have e := hk b _ _ hlt hc
  refine ⟨b, o, ha, Nat.lt_of_lt_of_le hlt hs, ?_, ?_⟩
  · rw [← hc]; unfold World.cell?; rw [e]
  · rw [← hd]; unfold World.cell?; rw [e]

theorem RoRow.draw {w0 w w' : World} {a a' : Option Addr} {len cap b : Nat} {l : List Ro} (h : RoRow w a' l) (hC : Cur w0 a len cap b w) (hg : w.grownBy w' (some b)) : RoRow w' a' l := by
  refine h.of hg.size (fun g f s hlt hc => hg.block g hlt (fun e => ?_))
  have e' := Option.some.inj e
  subst e'
  obtain ⟨_, _, i, x, _, _, hh⟩ := hC
  rw [Lib.cell_of_heap hh] at hc
  match f, hc with
  | 0, hc => cases hc
  | 1, hc => cases hc
  | 2, hc => cases hc
  | f + 3, hc => cases hc

theorem RoRow.setT {w w' : World} {a' : Option Addr} {R : Nat} {x : Int} {a2 : Option Addr} {n c : Nat} {l : List Ro} (h : RoRow w a' l) (hR : w.heap[R]? = some (.cells #[.int .i64 x, .slice a2 n c] 26 (0, 0))) (hk : u_KeepB (fun k => k = R) w w') : RoRow w' a' l := by
  refine h.of hk.size (fun g f s hlt hc => hk.block g hlt (fun e => ?_))
  subst e
  rw [Lib.cell_of_heap hR] at hc
  match f, hc with
  | 0, hc => cases hc
  | 1, hc => cases hc
  | f + 2, hc => cases hc

theorem set2_keep (w : World) (R : Nat) (u v : Value) : u_KeepB (fun k => k = R) w ((w.setCell ⟨R, 0, none⟩ u).setCell ⟨R, 1, none⟩ v) :=
  (u_KeepB.of_set (p := fun k => k = R) w 0 u rfl).trans (u_KeepB.of_set (p := fun k => k = R) _ 1 _ rfl)

def tmT (y : Nat) : Int := if y = 0 then 0 else if y = 1 then 50 else if y = 2 then 3155759999 else 3155760000

theorem tmT_cell {W : World} {h y : Nat} (hh : W.heap[h]? = some (.cells #[.int .i64 0, .int .i64 50, .int .i64 3155759999, .int .i64 3155760000] 2 (0, 0))) (hy : y < 4) : W.cell? ⟨h, y, none⟩ = some (.int .i64 (tmT y)) := by
  have hy3 : y = 0 ∨ y = 1 ∨ y = 2 ∨ y = 3 := by omega
  rw [Lib.cell_of_heap hh]
  rcases hy3 with rfl | rfl | rfl | rfl <;> rfl

theorem tmT_get {y : Nat} (hy : y < 4) : ∀ h, ([.int .i64 0, .int .i64 50, .int .i64 3155759999, .int .i64 3155760000] : List Value)[y]'h = .int .i64 (tmT y) := by
  have hy3 : y = 0 ∨ y = 1 ∨ y = 2 ∨ y = 3 := by omega
  rcases hy3 with rfl | rfl | rfl | rfl <;> exact fun _ => rfl

/-- A table that is drawn, at the end of the draw. -/
theorem tb_end {w w1 wr : World} {R P : Nat} {m : Int} {l : List Ro} {a' : Option Addr} {c' : Nat} (hRo : RoRow wr a' l) (hR : wr.heap[R]? = some (.cells #[.int .i64 0, .slice none 0 0] 26 (0, 0))) (hRw : w.heap.size ≤ R) (hb : Below w.heap.size w wr) :
    RoRow ((wr.setCell ⟨R, 0, none⟩ (.int .i64 m)).setCell ⟨R, 1, none⟩ (.slice a' l.length c')) a' l ∧ Below w.heap.size w ((wr.setCell ⟨R, 0, none⟩ (.int .i64 m)).setCell ⟨R, 1, none⟩ (.slice a' l.length c')) := by
  have hk := set2_keep wr R (.int .i64 m) (.slice a' l.length c')
  refine ⟨hRo.setT hR hk, ?_⟩
  exact hb.grown (row := some R) ⟨hk.os, hk.tape, hk.output, hk.size, fun k hk1 hk2 => hk.block k hk1 (fun e => hk2 (by rw [e]))⟩ hb.size (fun k e => by cases e; exact hRw)

theorem set2_heap {w : World} {R : Nat} {x y u v : Value} {T : TypeId} (h : w.heap[R]? = some (.cells #[x, y] T (0, 0))) : ((w.setCell ⟨R, 0, none⟩ u).setCell ⟨R, 1, none⟩ v).heap[R]? = some (.cells #[u, v] T (0, 0)) := by
  have h1 := u_heap_set (i := 0) h u
  have h2 := u_heap_set (i := 1) h1 v
  simpa using h2

/-- Where the draw stands. -/
structure EnS (W : World) (a : Option Addr) (len cap b P R : Nat) (m : Int) (l : List Ro) (a' : Option Addr) (ln c' : Nat) (wr : World) : Prop where
  c : Cur W a len cap b wr
  o : RoRow wr a' l
  p : wr.heap[P]? = some (.cells #[.int .i64 m, .slice a' ln c'] 26 (0, 0))
  r : wr.heap[R]? = some (.cells #[.int .i64 0, .slice none 0 0] 26 (0, 0))

theorem EnS.draw {W : World} {a : Option Addr} {len cap b P R : Nat} {m : Int} {l : List Ro} {a' : Option Addr} {ln c' : Nat} {w w' : World} (h : EnS W a len cap b P R m l a' ln c' w) (hC : Cur W a len cap b w') (hg : w.grownBy w' (some b)) : EnS W a len cap b P R m l a' ln c' w' :=
  ⟨hC, h.o.draw h.c hg, blk_draw h.p hg (h.c.tableNe h.p), blk_draw h.r hg (h.c.tableNe h.r)⟩

theorem EnS.below {W : World} {a : Option Addr} {len cap b P R : Nat} {m : Int} {l : List Ro} {a' : Option Addr} {ln c' : Nat} {w w' : World} (h : EnS W a len cap b P R m l a' ln c' w) (hb : Below w.heap.size w w') : EnS W a len cap b P R m l a' ln c' w' :=
  ⟨h.c.below hb, h.o.below hb, u_blk_below h.p hb, u_blk_below h.r hb⟩

theorem EnS.fin {w W : World} {a : Option Addr} {len cap b P R : Nat} {m : Int} {l : List Ro} {a' : Option Addr} {ln c' : Nat} {wr : World} (h : EnS W a len cap b P R m l a' ln c' wr) (hb : Below w.heap.size w W) (hRw : w.heap.size ≤ R) (hln : l.length = ln) :
    RoRow ((wr.setCell ⟨R, 0, none⟩ (.int .i64 m)).setCell ⟨R, 1, none⟩ (.slice a' ln c')) a' l ∧ Below w.heap.size w ((wr.setCell ⟨R, 0, none⟩ (.int .i64 m)).setCell ⟨R, 1, none⟩ (.slice a' ln c')) := by
  subst hln
  exact tb_end (w1 := w) (P := P) h.o h.r hRw (hb.trans (h.c.2.1.mono hb.size))

end Go.Proofs.Ytnddphmcagcdiaa
