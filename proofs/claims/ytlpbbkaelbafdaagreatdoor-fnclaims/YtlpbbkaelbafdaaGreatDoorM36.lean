/-  -/
import Derived.Test.YtlpbbkaelbafdaaGreatDoorM21
import Derived.Test.YtlpbbkaelbafdaaGreatDoorM35
import Derived.Test.YtlpbbkaelbafdaaGreatDoorM10
import Derived.Test.YtlpbbkaelbafdaaGreatDoorM34
import Derived.Test.YtlpbbkaelbafdaaGreatDoorM27
import Derived.Test.YtlpbbkaelbafdaaGreatDoorM19
import Derived.Deep.RegionWith
import Derived.Deep.CutRange
import Derived.Laws.OwnMore
set_option linter.unusedVariables false
set_option linter.unusedSimpArgs false
namespace Go.Proofs.YtlpbbkaelbafdaaGreatDoor
open Go.RowKit

def clV (c : Cm) (v : Value) : Value := .agg #[.string c.id, .string c.iss, .string c.sub, .int .i64 c.frm, .int .i64 c.til, .string c.whom, .string c.ans, v]

def DrewC (w0 : World) (a : Option Addr) (len cap b : Nat) (w : World) (m : Nat) (e : Ending) (w' : World) : Prop :=
 ∃ c v, e = .returned (clV c v) /\ w'.ownsRow w.heap.size 40 2 v c.facts.length (qaC c.facts) /\ CmSz 100 c /\ c.facts.length <= m /\ Cur w0 a len cap b w' /\ w.grownBy w' (some b)

abbrev three (x y z : ByteArray) : Obj := .cells #[.string x, .string y, .string z] 9 (0, 0)

theorem three_at {w : World} {B : Nat} {x y z : ByteArray} (h : w.heap[B]? = some (three x y z)) (hx : x.size <= 30) (hy : y.size <= 30) (hz : z.size <= 30) (i : Nat) (hi : i < 3) : ∃ s : ByteArray, w.cell? ⟨B, i, none⟩ = some (.string s) /\ s.size <= 30 := by
 have t := fun j => Lib.cell_of_heap h j
 match i, hi with
 | 0, _ => exact ⟨x, (t 0).trans rfl, hx⟩
 | 1, _ => exact ⟨y, (t 1).trans rfl, hy⟩
 | 2, _ => exact ⟨z, (t 2).trans rfl, hz⟩

theorem int3_at {w : World} {B : Nat} {x y z : Int} (h : w.heap[B]? = some (.cells #[.int .i64 x, .int .i64 y, .int .i64 z] 2 (0, 0))) (i : Nat) (hi : i < 3) : ∃ s : Int, w.cell? ⟨B, i, none⟩ = some (.int .i64 s) := by
 have t := fun j => Lib.cell_of_heap h j
 match i, hi with
 | 0, _ => exact ⟨x, (t 0).trans rfl⟩
 | 1, _ => exact ⟨y, (t 1).trans rfl⟩
 | 2, _ => exact ⟨z, (t 2).trans rfl⟩

theorem FH.grown {B b bc : Nat} {w w' : World} {c : Cm} {v : Value} {fl : List At} (h : FH B w bc c v fl) (hg : w.grownBy w' (some b)) (hb : b < B) (hbc : ¬ bc = b) : FH B w' bc c v fl := by
 refine ⟨(hg.block bc (lt_of_heap h.hc) (fun e => hbc (Option.some.inj e))).trans h.hc, ⟨h.own.1, ?_⟩, h.nc⟩
 rcases h.own.2 with h' | ⟨g, cap, cur, k1, k2, k3, k4⟩
 ·exact .inl h'
 ·exact .inr ⟨g, cap, cur, k1, k2, (hg.block g (lt_of_heap k3) (fun e => by have := Option.some.inj e; omega)).trans k3, k4⟩

theorem FH.set {B bc i : Nat} {w : World} {c c' : Cm} {v : Value} {fl : List At} {u : Value} (h : FH B w bc c v fl) (hc : ClH (w.setCell ⟨bc, i, none⟩ u) bc c' v) : FH B (w.setCell ⟨bc, i, none⟩ u) bc c' v fl := by
 refine ⟨hc, ⟨h.own.1, ?_⟩, h.nc⟩
 rcases h.own.2 with h' | ⟨g, cap, cur, k1, k2, k3, k4⟩
 ·exact .inl h'
 ·exact .inr ⟨g, cap, cur, k1, k2, (Below.heap_setCell _ _ _ _ (show ¬ g = bc from fun e => h.nc (by rw [k1, <- e]; rfl))).trans k3, k4⟩

structure AnC (w0 : World) (a : Option Addr) (len cap b : Nat) (w W : World) (bx : Nat) (c : Cm) (v : Value) : Prop where
 cur : Cur w0 a len cap b W
 gr : w.grownBy W (some b)
 box : FH (w.heap.size + 1) W bx c v c.facts
 res : W.heap[w.heap.size]? = some (.cells #[.string ⟨#[]⟩, .string ⟨#[]⟩, .string ⟨#[]⟩, .int .i64 0, .int .i64 0, .string ⟨#[]⟩, .string ⟨#[]⟩, .slice none 0 0] 26 (0, 0))
 lt : b < w.heap.size
 bl : w.heap.size < bx
 le : w0.heap.size <= w.heap.size

theorem AnC.draw {w0 : World} {a : Option Addr} {len cap b : Nat} {w W W' : World} {bx : Nat} {c : Cm} {v : Value} (h : AnC w0 a len cap b w W bx c v) (hC : Cur w0 a len cap b W') (hg : W.grownBy W' (some b)) : AnC w0 a len cap b w W' bx c v :=
 ⟨hC, gtrans h.gr hg, h.box.grown hg (by have := h.lt; omega) (by have := h.lt; have := h.bl; omega), (hg.block _ (lt_of_heap h.res) (fun e => by have := Option.some.inj e; have := h.lt; omega)).trans h.res, h.lt, h.bl, h.le⟩

theorem AnC.alloc {w0 : World} {a : Option Addr} {len cap b : Nat} {w W : World} {bx : Nat} {c : Cm} {v : Value} (h : AnC w0 a len cap b w W bx c v) (o : Obj) : AnC w0 a len cap b w (W.alloc o) bx c v :=
 h.draw (h.cur.alloc o) (World.grownBy_alloc W o _)

theorem AnC.drewN {w0 : World} {a : Option Addr} {len cap b : Nat} {w W : World} {bx : Nat} {c : Cm} {v : Value} (h : AnC w0 a len cap b w W bx c v) (n : Nat) : AnC w0 a len cap b w (W.drewN n) bx c v :=
 ⟨h.cur.drewN n, g_drewN h.gr n, ⟨h.box.hc, h.box.own, h.box.nc⟩, h.res, h.lt, h.bl, h.le⟩

theorem AnC.drew1 {w0 : World} {a : Option Addr} {len cap b : Nat} {w W : World} {bx : Nat} {c : Cm} {v : Value} (h : AnC w0 a len cap b w W bx c v) : AnC w0 a len cap b w W.drew bx c v := h.drewN 1

theorem grown_set {w W : World} {b g i : Nat} {u : Value} (h : w.grownBy W (some b)) (hg : w.heap.size <= g) : w.grownBy (W.setCell ⟨g, i, none⟩ u) (some b) :=
 ⟨h.os, h.tape, h.output, (by have h1 := h.size; have e : (W.setCell ⟨g, i, none⟩ u).heap.size = W.heap.size := (by simp); omega), fun k hk hr => (Below.heap_setCell _ _ _ _ (show ¬ k = g by omega)).trans (h.block k hk hr)⟩

theorem AnC.set {w0 : World} {a : Option Addr} {len cap b : Nat} {w W : World} {bx i : Nat} {c c' : Cm} {v u : Value} (h : AnC w0 a len cap b w W bx c v) (hc : ClH (W.setCell ⟨bx, i, none⟩ u) bx c' v) (hf : c'.facts = c.facts) : AnC w0 a len cap b w (W.setCell ⟨bx, i, none⟩ u) bx c' v := by
 have hl := h.lt
 have hb := h.bl
 have hle := h.le
 refine ⟨?_, grown_set h.gr (by omega), by rw [hf]; exact h.box.set hc, (Below.heap_setCell _ _ _ _ (show ¬ w.heap.size = bx by omega)).trans h.res, h.lt, h.bl, h.le⟩
 obtain ⟨c1, c2, i', h', k1, k2, k3⟩ := h.cur
 exact ⟨c1, c2.setCell (show w0.heap.size <= bx by omega) u, i', h', k1, k2, (Below.heap_setCell _ _ _ _ (show ¬ b = bx by omega)).trans k3⟩

theorem AnC.app {w0 : World} {a : Option Addr} {len cap b : Nat} {w W w9 : World} {bx : Nat} {c : Cm} {v v9 : Value} {s t : ByteArray} (h : AnC w0 a len cap b w W bx c v) (ho : w9.ownsRow (w.heap.size + 1) 40 2 v9 (c.facts.length + 1) (qaC c.facts ++ [.string s, .string t])) (hgr : W.grownBy w9 v.ownBlock) (hw : v9.ownBlock = v.ownBlock \/ v9.ownBlock = some W.heap.size) :
  ∃ a9 c9, v9 = .slice a9 (c.facts.length + 1) c9 /\ AnC w0 a len cap b w (w9.setCell ⟨bx, 7, none⟩ v9) bx { c with facts := c.facts ++ [⟨s, t⟩] } v9 /\ (w9.cell? ⟨bx, 7, none⟩ = some v /\ w9.frozen? ⟨bx, 7, none⟩ = false) := by
 obtain ⟨a9, c9, hv9, hF, hz, _⟩ := FH.app h.box ho hgr hw
 have hl := h.lt
 have hb := h.bl
 have hle := h.le
 have hvo : ∀ k, v.ownBlock = some k -> w.heap.size + 1 <= k := fun k e => (h.box.own.lt k e).1
 refine ⟨a9, c9, hv9, ⟨?_, grown_set ⟨hgr.os.trans h.gr.os, hgr.tape.trans h.gr.tape, hgr.output.trans h.gr.output, Nat.le_trans h.gr.size hgr.size, fun k hk hr => (hgr.block k (Nat.lt_of_lt_of_le hk h.gr.size) (fun e => by have := hvo k e.symm; omega)).trans (h.gr.block k hk hr)⟩ (by omega), ⟨hF.hc, hF.own, hF.nc⟩, (Below.heap_setCell _ _ _ _ (show ¬ w.heap.size = bx by omega)).trans ((hgr.block _ (lt_of_heap h.res) (fun e => by have := hvo _ e.symm; omega)).trans h.res), h.lt, h.bl, h.le⟩, hz⟩
 obtain ⟨c1, c2, i', h', k1, k2, k3⟩ := h.cur.grown hgr (fun e => by have := hvo b e.symm; omega) (fun k e => by have := hvo k e; omega)
 exact ⟨c1, c2.setCell (show w0.heap.size <= bx by omega) v9, i', h', k1, k2, (Below.heap_setCell _ _ _ _ (show ¬ b = bx by omega)).trans k3⟩

def thr (x y z : ByteArray) (i : Nat) : ByteArray := [x, y, z].getD i ⟨#[]⟩

theorem thr_at {w : World} {B : Nat} {x y z : ByteArray} (h : w.heap[B]? = some (three x y z)) (i : Nat) (hi : i < 3) : w.cell? ⟨B, i, none⟩ = some (.string (thr x y z i)) := by
 have t := fun j => Lib.cell_of_heap h j
 match i, hi with
 | 0, _ => exact (t 0).trans rfl
 | 1, _ => exact (t 1).trans rfl
 | 2, _ => exact (t 2).trans rfl

theorem thr_sz {x y z : ByteArray} (hx : x.size <= 30) (hy : y.size <= 30) (hz : z.size <= 30) (i : Nat) (hi : i < 3) : (thr x y z i).size <= 30 := by
 match i, hi with
 | 0, _ => exact hx
 | 1, _ => exact hy
 | 2, _ => exact hz

theorem q_two_cells1 (T : TypeId) (w : World) (o : Obj) (x y : Value) : ∀ j u, [x, y][j]? = some u -> ((w.alloc o).alloc (.cells #[x, y] T)).cell? ((⟨w.heap.size + 1, 0, none⟩ : Addr).add j) = some u := by
 have h := q_two_cells T (w.alloc o) x y
 rw [World.size_alloc] at h
 exact h

structure FinC (w0 : World) (a : Option Addr) (len cap b : Nat) (w W : World) (c : Cm) (v : Value) : Prop where
 cur : Cur w0 a len cap b W
 gr : w.grownBy W (some b)
 own : W.ownsRow (w.heap.size + 1) 40 2 v c.facts.length (qaC c.facts)
 le : w0.heap.size <= w.heap.size

theorem FinC.set {w0 : World} {a : Option Addr} {len cap b : Nat} {w W : World} {c : Cm} {v : Value} (h : FinC w0 a len cap b w W c v) (hb : b < w.heap.size) (i : Nat) (u : Value) : FinC w0 a len cap b w (W.setCell ⟨w.heap.size, i, none⟩ u) c v := by
 have hle := h.le
 refine ⟨?_, grown_set h.gr (Nat.le_refl _), ⟨h.own.1, ?_⟩, h.le⟩
 ·obtain ⟨c1, c2, i', h', k1, k2, k3⟩ := h.cur
  exact ⟨c1, c2.setCell (show w0.heap.size <= w.heap.size from hle) u, i', h', k1, k2, (Below.heap_setCell _ _ _ _ (show ¬ b = w.heap.size by omega)).trans k3⟩
 ·rcases h.own.2 with h' | ⟨g, cap, cur, k1, k2, k3, k4⟩
  ·exact .inl h'
  ·exact .inr ⟨g, cap, cur, k1, k2, (Below.heap_setCell _ _ _ _ (show ¬ g = w.heap.size by omega)).trans k3, k4⟩

theorem FinC.drew {w0 : World} {a : Option Addr} {len cap b : Nat} {w W : World} {c : Cm} {v : Value} {m : Nat} (h : FinC w0 a len cap b w W c v) (hz : CmSz 100 c) (hm : c.facts.length <= m) : DrewC w0 a len cap b w m (.returned (clV c v)) W := by
 refine ⟨c, v, rfl, ⟨h.own.1, ?_⟩, hz, hm, h.cur, h.gr⟩
 rcases h.own.2 with h' | ⟨g, cap, cur, k1, k2, k3, k4⟩
 ·exact .inl h'
 ·exact .inr ⟨g, cap, cur, k1, by omega, k3, k4⟩

end Go.Proofs.YtlpbbkaelbafdaaGreatDoor

namespace Go.Proofs.YtlpbbkaelbafdaaGreatDoor
open Go.RowKit

set_option maxRecDepth 8000 in
set_option maxHeartbeats 8000000 in
theorem cDrawAny14 (w0 : World) (a : Option Addr) (len cap b : Nat) (w : World) (hlen : len <= 4096) (hcr : CodeRow w0 a len) (hC : Cur w0 a len cap b w) (hD : ∀ wx, Cur w0 a len cap b wx -> Calls Tryz.prog 26 #[.pointer (some ⟨b, 0, none⟩)] wx (DrewC w0 a len cap b wx 3)) :
  Calls Tryz.prog 61 #[.pointer (some ⟨b, 0, none⟩)] w (DrewC w0 a len cap b w 4) := by
 have HR := hid hcr
 have HC := hid hC
 have HD := hid hD
 have M2 := hid (heap_alloc_new w (.cells #[.string ⟨#[]⟩, .string ⟨#[]⟩, .string ⟨#[]⟩, .int .i64 0, .int .i64 0, .string ⟨#[]⟩, .string ⟨#[]⟩, .slice none 0 0] 26))
 clear hcr hC hD
 go_enter Tryz.func61, Tryz.ntmps61
 go_wp2_with fail
 refine (HD.out _ (HC.out.alloc _)).mono ?_
 rintro e w1 ⟨c, v, rfl, hown, hz, h3, hC1, hG1⟩
 have hs1 : w.heap.size < w1.heap.size := by have := hG1.size; rw [World.size_alloc] at this; omega
 have hbl := HC.out.lt
 have hres := (hG1.block w.heap.size (by rw [World.size_alloc]; omega) (fun e => by have := Option.some.inj e; omega)).trans M2.out
 rw [World.size_alloc] at hown
 obtain ⟨av, cv, hv, _⟩ := qa_own hown
 subst hv
 have HA := hid (show AnC w0 a len cap b w (w1.alloc (.cells #[.string c.id, .string c.iss, .string c.sub, .int .i64 c.frm, .int .i64 c.til, .string c.whom, .string c.ans, .slice av c.facts.length cv] 26)) w1.heap.size c (.slice av c.facts.length cv) from
  ⟨hC1.alloc _, gtrans (World.grownBy_alloc w _ _) (gtrans hG1 (World.grownBy_alloc w1 _ _)), ⟨heap_alloc_new w1 _, hown.alloc _, fun e => by have := (hown.lt _ e).2; omega⟩, blk_alloc hres _, hbl, hs1, HC.out.size⟩)
 obtain ⟨bx, hbx⟩ : ∃ g, w1.heap.size = g := ⟨_, rfl⟩
 rw [hbx] at HA
 obtain ⟨wb, hwb⟩ : ∃ wb, w1.alloc (.cells #[.string c.id, .string c.iss, .string c.sub, .int .i64 c.frm, .int .i64 c.til, .string c.whom, .string c.ans, .slice av c.facts.length cv] 26) = wb := ⟨_, rfl⟩
 rw [hwb] at HA
 have HZ := hid hz
 have h4 : c.facts.length <= 4 := by omega
 clear hown hC1 hG1 hres hz M2 HD hs1
 unfold clV
 go_wp2_with fail
 refine (cOnce 8 w0 a len cap b _ hlen HR.out HA.out.cur (by decide) (by decide)).mono ?_
 rintro e w2 ⟨k, rfl, hC2, hG2⟩
 replace HA := hid (HA.out.draw hC2 hG2)
 clear hC2 hG2 hwb
 go_upto_if 7 with fail
 go_cut [8] from 8 to 49 (fun _ wv => Hid (∃ (c : Cm) (v : Value), AnC w0 a len cap b w wv bx c v /\ CmSz 100 c /\ c.facts.length <= 4))
 case first =>
  cases k
  ·go_wp2_with fail
   go_meet
   exact ⟨c, _, HA.out, HZ.out, h4⟩
  ·go_wp2_with fail
   refine (cBelow 5 w0 a len cap b _ hlen HR.out HA.out.cur (by decide) (by decide)).mono ?_
   rintro e w3 ⟨x, rfl, hx, hC3, hG3⟩
   replace HA := hid (HA.out.draw hC3 hG3)
   clear hC3 hG3
   rcases (show x = 0 \/ x = 1 \/ x = 2 \/ x = 3 \/ x = 4 from by omega) with rfl | rfl | rfl | rfl | rfl
   ·go_wp2_with fail
    refine (cBelow 3 w0 a len cap b _ hlen HR.out (HA.out.cur.alloc _) (by decide) (by decide)).mono ?_
    rintro e w4 ⟨y, rfl, hy, hC4, hG4⟩
    have HA4 := hid ((HA.out.alloc (three ⟨#[]⟩ ⟨#[65]⟩ ⟨#[48, 49, 50, 51, 52, 53, 54, 55, 56, 57, 97, 98, 99]⟩)).draw hC4 hG4)
    obtain ⟨s, hs1, hs2⟩ := three_at ((hG4.block w3.heap.size (by rw [World.size_alloc]; omega) (fun e => by have := Option.some.inj e; have := HA.out.cur.lt; omega)).trans (heap_alloc_new w3 (three ⟨#[]⟩ ⟨#[65]⟩ ⟨#[48, 49, 50, 51, 52, 53, 54, 55, 56, 57, 97, 98, 99]⟩))) (by decide) (by decide) (by decide) y hy
    have hyi : (y : Int) < 3 := by omega
    have HF := hid (HA4.out.set (i := 0) (u := .string s) (c' := { c with id := s }) (heap_setCell_same w4 bx 0 _ _ (.string s) HA4.out.box.hc) rfl)
    obtain ⟨_, qf0, qf1, qf2, qf3, qf4, qf5, qf6, qf7⟩ := box8 HA4.out.box.hc
    obtain ⟨⟨q0, q1, q2, q3, q4, q5, q6, q7⟩, _⟩ := box8 HA4.out.box.hc
    clear hC4 hG4
    go_wp2_with fail
    go_meet
    exact ⟨{ c with id := s }, _, HF.out, ⟨Nat.le_trans hs2 (by decide), HZ.out.2⟩, h4⟩
   ·go_wp2_with fail
    refine (cBelow 3 w0 a len cap b _ hlen HR.out (HA.out.cur.alloc _) (by decide) (by decide)).mono ?_
    rintro e w4 ⟨y, rfl, hy, hC4, hG4⟩
    have HA4 := hid ((HA.out.alloc (three ⟨#[]⟩ ⟨#[97, 32, 98]⟩ ⟨#[48, 49, 50, 51, 52, 53, 54, 55, 56, 57, 48, 49, 50, 51, 52, 53, 54, 55, 56, 57, 48]⟩)).draw hC4 hG4)
    obtain ⟨s, hs1, hs2⟩ := three_at ((hG4.block w3.heap.size (by rw [World.size_alloc]; omega) (fun e => by have := Option.some.inj e; have := HA.out.cur.lt; omega)).trans (heap_alloc_new w3 (three ⟨#[]⟩ ⟨#[97, 32, 98]⟩ ⟨#[48, 49, 50, 51, 52, 53, 54, 55, 56, 57, 48, 49, 50, 51, 52, 53, 54, 55, 56, 57, 48]⟩))) (by decide) (by decide) (by decide) y hy
    have hyi : (y : Int) < 3 := by omega
    have HF := hid (HA4.out.set (i := 2) (u := .string s) (c' := { c with sub := s }) (heap_setCell_same w4 bx 2 _ _ (.string s) HA4.out.box.hc) rfl)
    obtain ⟨_, qf0, qf1, qf2, qf3, qf4, qf5, qf6, qf7⟩ := box8 HA4.out.box.hc
    obtain ⟨⟨q0, q1, q2, q3, q4, q5, q6, q7⟩, _⟩ := box8 HA4.out.box.hc
    clear hC4 hG4
    go_wp2_with fail
    go_meet
    exact ⟨{ c with sub := s }, _, HF.out, ⟨HZ.out.1, HZ.out.2.1, Nat.le_trans hs2 (by decide), HZ.out.2.2.2⟩, h4⟩
   ·go_wp2_with fail
    refine (cBelow 3 w0 a len cap b _ hlen HR.out (HA.out.cur.alloc _) (by decide) (by decide)).mono ?_
    rintro e w4 ⟨y, rfl, hy, hC4, hG4⟩
    have HA4 := hid ((HA.out.alloc (.cells #[.int .i64 (-1), .int .i64 3155759999, .int .i64 3155760000] 2 (0, 0))).draw hC4 hG4)
    obtain ⟨s, hs1⟩ := int3_at ((hG4.block w3.heap.size (by rw [World.size_alloc]; omega) (fun e => by have := Option.some.inj e; have := HA.out.cur.lt; omega)).trans (heap_alloc_new w3 (.cells #[.int .i64 (-1), .int .i64 3155759999, .int .i64 3155760000] 2 (0, 0)))) y hy
    have hyi : (y : Int) < 3 := by omega
    have HF := hid (HA4.out.set (i := 4) (u := .int .i64 s) (c' := { c with til := s }) (heap_setCell_same w4 bx 4 _ _ (.int .i64 s) HA4.out.box.hc) rfl)
    obtain ⟨⟨q0, q1, q2, q3, q4, q5, q6, q7⟩, qf0, qf1, qf2, qf3, qf4, qf5, qf6, qf7⟩ := box8 HA4.out.box.hc
    clear hC4 hG4
    go_wp2_with fail
    go_meet
    exact ⟨{ c with til := s }, _, HF.out, HZ.out, h4⟩
   ·have HF := hid (HA.out.set (i := 6) (u := .string ⟨#[82]⟩) (c' := { c with ans := ⟨#[82]⟩ }) (heap_setCell_same w3 bx 6 _ _ (.string ⟨#[82]⟩) HA.out.box.hc) rfl)
    obtain ⟨⟨q0, q1, q2, q3, q4, q5, q6, q7⟩, qf0, qf1, qf2, qf3, qf4, qf5, qf6, qf7⟩ := box8 HA.out.box.hc
    go_wp2_with fail
    go_meet
    exact ⟨{ c with ans := ⟨#[82]⟩ }, _, HF.out, ⟨HZ.out.1, HZ.out.2.1, HZ.out.2.2.1, HZ.out.2.2.2.1, show (⟨#[82]⟩ : ByteArray).size <= 100 by decide, HZ.out.2.2.2.2.2⟩, h4⟩
   ·obtain ⟨i1, hi1, hy0, hy1, hy2⟩ := info_parts infoQA
    have HJ := hid (And.intro hi1 (And.intro hy0 (And.intro hy1 hy2)))
    clear hi1 hy0 hy1 hy2
    have HBL := hid (show b < w3.heap.size from HA.out.cur.lt)
    have CB1 := hid (show Calls Tryz.prog 28 #[.pointer (some ⟨b, 0, none⟩), .int .i64 3] (w3.alloc (three ⟨#[]⟩ ⟨#[32, 97]⟩ ⟨#[98]⟩)).drew fun r w' => ∃ y : Nat, r = .returned (.int .i64 y) /\ (y : Int) < 3 /\ AnC w0 a len cap b w w' bx c (.slice av c.facts.length cv) /\ w'.cell? ⟨bx, 7, none⟩ = some (.slice av c.facts.length cv) /\ (∀ o, (w'.alloc o).cell? ⟨bx, 7, none⟩ = some (.slice av c.facts.length cv)) /\ (∀ o o2, ((w'.alloc o).alloc o2).cell? ⟨bx, 7, none⟩ = some (.slice av c.facts.length cv)) /\ w'.cell? ⟨w3.heap.size, y, none⟩ = some (.string (thr ⟨#[]⟩ ⟨#[32, 97]⟩ ⟨#[98]⟩ y)) /\ (thr ⟨#[]⟩ ⟨#[32, 97]⟩ ⟨#[98]⟩ y).size <= 30 by
     refine (cBelow 3 w0 a len cap b _ hlen HR.out (HA.out.alloc (three ⟨#[]⟩ ⟨#[32, 97]⟩ ⟨#[98]⟩)).drew1.cur (by decide) (by decide)).mono ?_
     rintro r w7 ⟨y, rfl, hy, hC7, hG7⟩
     have h7 := (HA.out.alloc (three ⟨#[]⟩ ⟨#[32, 97]⟩ ⟨#[98]⟩)).drew1.draw hC7 hG7
     exact ⟨y, rfl, by omega, h7, by rw [Lib.cell_of_heap h7.box.hc]; rfl, fun o => by rw [Lib.cell_of_heap (h7.alloc o).box.hc]; rfl, fun o o2 => by rw [Lib.cell_of_heap ((h7.alloc o).alloc o2).box.hc]; rfl, thr_at ((hG7.block w3.heap.size (by show w3.heap.size < (w3.alloc _).heap.size; rw [World.size_alloc]; omega) (fun e => by have := Option.some.inj e; have := HBL.out; omega)).trans (heap_alloc_new w3 (three ⟨#[]⟩ ⟨#[32, 97]⟩ ⟨#[98]⟩))) y hy, thr_sz (by decide) (by decide) (by decide) y hy⟩)
    have CB2 := hid (show Calls Tryz.prog 28 #[.pointer (some ⟨b, 0, none⟩), .int .i64 3] w3.drew fun r w' => ∃ y : Nat, r = .returned (.int .i64 y) /\ (y : Int) < 3 /\ AnC w0 a len cap b w w' bx c (.slice av c.facts.length cv) /\ w'.cell? ⟨bx, 7, none⟩ = some (.slice av c.facts.length cv) /\ (∀ o, (w'.alloc o).cell? ⟨bx, 7, none⟩ = some (.slice av c.facts.length cv)) /\ (∀ o o2, ((w'.alloc o).alloc o2).cell? ⟨bx, 7, none⟩ = some (.slice av c.facts.length cv)) /\ (∀ W : World, (W.alloc (three ⟨#[]⟩ ⟨#[32, 97]⟩ ⟨#[98]⟩)).cell? ⟨W.heap.size, y, none⟩ = some (.string (thr ⟨#[]⟩ ⟨#[32, 97]⟩ ⟨#[98]⟩ y))) /\ (thr ⟨#[]⟩ ⟨#[32, 97]⟩ ⟨#[98]⟩ y).size <= 30 by
     refine (cBelow 3 w0 a len cap b _ hlen HR.out HA.out.drew1.cur (by decide) (by decide)).mono ?_
     rintro r w7 ⟨y, rfl, hy, hC7, hG7⟩
     have h7 := HA.out.drew1.draw hC7 hG7
     exact ⟨y, rfl, by omega, h7, by rw [Lib.cell_of_heap h7.box.hc]; rfl, fun o => by rw [Lib.cell_of_heap (h7.alloc o).box.hc]; rfl, fun o o2 => by rw [Lib.cell_of_heap ((h7.alloc o).alloc o2).box.hc]; rfl, fun W => thr_at (heap_alloc_new W (three ⟨#[]⟩ ⟨#[32, 97]⟩ ⟨#[98]⟩)) y hy, thr_sz (by decide) (by decide) (by decide) y hy⟩)
    have cA : w3.cell? ⟨bx, 7, none⟩ = some (.slice av c.facts.length cv) := by rw [Lib.cell_of_heap HA.out.box.hc]; rfl
    have cB : ∀ o, (w3.alloc o).cell? ⟨bx, 7, none⟩ = some (.slice av c.facts.length cv) := fun o => by rw [Lib.cell_of_heap (HA.out.alloc o).box.hc]; rfl
    have cC : ∀ o, (w3.drew.alloc o).cell? ⟨bx, 7, none⟩ = some (.slice av c.facts.length cv) := cB
    have H3 := hid (show c.facts.length + 1 <= maxLen by unfold maxLen; omega)
    have H4 := hid (show (c.facts.length + 1) * 32 <= 140737488355328 by omega)
    go_wp2_with fail
    go_region_law (first
     | (refine step_app_at rfl (.tmp 40) (.tmp 47) 24 rfl (w.heap.size + 1) 40 i1 _ 2 32 Tryz.underlying24 HJ.out.1 HJ.out.2.1 HJ.out.2.2.1 HJ.out.2.2.2 rfl (by decide) (.slice av c.facts.length cv) c.facts.length (qaC c.facts) (by simp [Act.eval, Act.put]) (HSx.out.box.own.alloc (.cells #[.string ⟨#[114, 111, 108, 101]⟩, .string (thr ⟨#[]⟩ ⟨#[32, 97]⟩ ⟨#[98]⟩ y)] 40)) ⟨_, 0, none⟩ 1 1 [.string ⟨#[114, 111, 108, 101]⟩, .string (thr ⟨#[]⟩ ⟨#[32, 97]⟩ ⟨#[98]⟩ y)] (by simp [Act.eval, Act.put]) rfl (q_two_cells _ _ _ _) (q_two_one _ _) H3.out H4.out (Nat.succ_le_of_lt (lt_of_heap (HSx.out.alloc (.cells #[.string ⟨#[114, 111, 108, 101]⟩, .string (thr ⟨#[]⟩ ⟨#[32, 97]⟩ ⟨#[98]⟩ y)] 40)).res)) ?_; intro v9 w9 hown9 hgrow9 hat9; obtain ⟨a9, c9, hv9, hA9, z9, zf9⟩ := AnC.app (HSx.out.alloc (.cells #[.string ⟨#[114, 111, 108, 101]⟩, .string (thr ⟨#[]⟩ ⟨#[32, 97]⟩ ⟨#[98]⟩ y)] 40)) hown9 hgrow9 hat9; have HA9 := hid hA9; clear hown9 hgrow9 hat9 hA9; subst hv9)
     | (refine step_app_at rfl (.tmp 40) (.tmp 47) 24 rfl (w.heap.size + 1) 40 i1 _ 2 32 Tryz.underlying24 HJ.out.1 HJ.out.2.1 HJ.out.2.2.1 HJ.out.2.2.2 rfl (by decide) (.slice av c.facts.length cv) c.facts.length (qaC c.facts) (by simp [Act.eval, Act.put]) ((HSx.out.alloc (three ⟨#[]⟩ ⟨#[32, 97]⟩ ⟨#[98]⟩)).box.own.alloc (.cells #[.string ⟨#[114, 111, 108, 101]⟩, .string (thr ⟨#[]⟩ ⟨#[32, 97]⟩ ⟨#[98]⟩ y)] 40)) ⟨W2.heap.size + 1, 0, none⟩ 1 1 [.string ⟨#[114, 111, 108, 101]⟩, .string (thr ⟨#[]⟩ ⟨#[32, 97]⟩ ⟨#[98]⟩ y)] (by simp [Act.eval, Act.put]) rfl (q_two_cells1 _ _ _ _ _) (q_two_one _ _) H3.out H4.out (Nat.succ_le_of_lt (lt_of_heap ((HSx.out.alloc (three ⟨#[]⟩ ⟨#[32, 97]⟩ ⟨#[98]⟩)).alloc (.cells #[.string ⟨#[114, 111, 108, 101]⟩, .string (thr ⟨#[]⟩ ⟨#[32, 97]⟩ ⟨#[98]⟩ y)] 40)).res)) ?_; intro v9 w9 hown9 hgrow9 hat9; obtain ⟨a9, c9, hv9, hA9, z9, zf9⟩ := AnC.app ((HSx.out.alloc (three ⟨#[]⟩ ⟨#[32, 97]⟩ ⟨#[98]⟩)).alloc (.cells #[.string ⟨#[114, 111, 108, 101]⟩, .string (thr ⟨#[]⟩ ⟨#[32, 97]⟩ ⟨#[98]⟩ y)] 40)) hown9 hgrow9 hat9; have HA9 := hid hA9; clear hown9 hgrow9 hat9 hA9; subst hv9)
     | (go_simp; go_at_call 28; refine CB1.out.mono ?_; rintro r W2 ⟨y, rfl, hyi, hA2, d7, d7a, d7b, hcell, hts⟩; have HSx := hid hA2; clear hA2)
     | (go_simp; go_at_call 28; refine CB2.out.mono ?_; rintro r W2 ⟨y, rfl, hyi, hA2, d7, d7a, d7b, hcell, hts⟩; have HSx := hid hA2; clear hA2))
    all_goals
     go_wp2_with fail
     go_meet
     refine ⟨_, _, HA9.out, ⟨HZ.out.1, HZ.out.2.1, HZ.out.2.2.1, HZ.out.2.2.2.1, HZ.out.2.2.2.2.1, ?_, ?_⟩, ?_⟩
     ·show (c.facts ++ [_]).length <= 100
      rw [List.length_append]
      have : [(⟨⟨#[114, 111, 108, 101]⟩, thr ⟨#[]⟩ ⟨#[32, 97]⟩ ⟨#[98]⟩ y⟩ : At)].length = 1 := rfl
      omega
     ·intro x hx
      rcases List.mem_append.1 hx with h | h
      ·exact HZ.out.2.2.2.2.2.2 x h
      ·rw [List.mem_singleton.1 h]
       exact ⟨show (⟨#[114, 111, 108, 101]⟩ : ByteArray).size <= 100 by decide, Nat.le_trans hts (by decide)⟩
     ·show (c.facts ++ [_]).length <= 4
      rw [List.length_append]
      have : [(⟨⟨#[114, 111, 108, 101]⟩, thr ⟨#[]⟩ ⟨#[32, 97]⟩ ⟨#[98]⟩ y⟩ : At)].length = 1 := rfl
      omega
 case rest =>
  clear HA HZ h4 h3
  obtain ⟨c, v, hA, hz, h4⟩ := hcut.out
  have HA := hid hA
  obtain ⟨av, cv, hv, _⟩ := qa_own hA.box.own
  subst hv
  obtain ⟨⟨q0, q1, q2, q3, q4, q5, q6, q7⟩, _⟩ := box8 hA.box.hc
  obtain ⟨⟨y0, y1, y2, y3, y4, y5, y6, y7⟩, yf0, yf1, yf2, yf3, yf4, yf5, yf6, yf7⟩ := box8 hA.res
  have HZ := hid hz
  clear hA hz hcut
  go_wp2_with fail
  have hset : ∀ (W : World) (i : Nat) (u : Value), FinC w0 a len cap b w W c (.slice av c.facts.length cv) -> FinC w0 a len cap b w (W.setCell ⟨w.heap.size, i, none⟩ u) c (.slice av c.facts.length cv) := fun W i u h => h.set hbl i u
  have hfin : FinC w0 a len cap b w wc c (.slice av c.facts.length cv) := ⟨HA.out.cur, HA.out.gr, HA.out.box.own, HA.out.le⟩
  refine bodyPost_ret (v := clV c (.slice av c.facts.length cv)) (by simp [results, Tryz.results61, go_sem, clV, y0, y1, y2, y3, y4, y5, y6, y7]) rfl ?_
  refine FinC.drew ?_ HZ.out h4
  iterate 8 refine hset _ _ _ ?_
  exact hfin

end Go.Proofs.YtlpbbkaelbafdaaGreatDoor

namespace Go.Proofs.YtlpbbkaelbafdaaGreatDoor
open Go.RowKit

def DrawnO (w : World) (e : Ending) (w' : World) : Prop := ∃ c a' cap', e = .returned (cmV c a' cap') /\ OwnAts w' w.heap.size a' c.facts /\ CmSz 1048576 c /\ Below w.heap.size w w'

def DrewR (w0 : World) (a : Option Addr) (len cap b : Nat) (w : World) (e : Ending) (w' : World) : Prop :=
 ∃ c v, e = .returned (clV c v) /\ w'.ownsRow w.heap.size 40 2 v c.facts.length (qaC c.facts) /\ CmSz 100 c /\ c.facts.length <= 3 /\ Cur w0 a len cap b w' /\ w.grownBy w' (some b) /\ (¬ c.iss.size = 0) /\ (¬ c.sub.size = 0) /\ ¬ c.whom.size = 0

theorem DrewR.c {w0 : World} {a : Option Addr} {len cap b : Nat} {w : World} {e : Ending} {w' : World} (h : DrewR w0 a len cap b w e w') : DrewC w0 a len cap b w 3 e w' := by
 obtain ⟨c, v, h1, h2, h3, h4, h5, h6, _⟩ := h
 exact ⟨c, v, h1, h2, h3, h4, h5, h6⟩

def L14 : Prop := ∀ (w0 : World) (a : Option Addr) (len cap b : Nat) (wx : World), len <= 4096 -> CodeRow w0 a len -> Cur w0 a len cap b wx -> Calls Tryz.prog 26 #[.pointer (some ⟨b, 0, none⟩)] wx (DrewR w0 a len cap b wx)

theorem sz_more {m n : Nat} {c : Cm} (h : CmSz m c) (hm : m <= n) : CmSz n c := ⟨Nat.le_trans h.1 hm, Nat.le_trans h.2.1 hm, Nat.le_trans h.2.2.1 hm, Nat.le_trans h.2.2.2.1 hm, Nat.le_trans h.2.2.2.2.1 hm, Nat.le_trans h.2.2.2.2.2.1 hm, fun x hx => ⟨Nat.le_trans (h.2.2.2.2.2.2 x hx).1 hm, Nat.le_trans (h.2.2.2.2.2.2 x hx).2 hm⟩⟩

theorem own_setR {w : World} {B g i : Nat} {a : Option Addr} {l : List At} {u : Value} (h : OwnAts w B a l) (hg : g < B) : OwnAts (w.setCell ⟨g, i, none⟩ u) B a l := OwnAts.set4 h (fun k o e hl ek => by
 obtain ⟨k', o', cu', e1, e2, _⟩ := h hl
 rw [e] at e1
 cases e1
 omega)

set_option maxRecDepth 8000 in
set_option maxHeartbeats 4000000 in
theorem cDrawClaimOk (hD : L14) (a : Option Addr) (len cap : Nat) (w : World) (hlen : len <= 4096) (hcr : CodeRow w a len) :
  Calls Tryz.prog 18 #[.slice a len cap] w (DrawnO w) := by
 have HB0 := hid ((Below.refl w.heap.size w).alloc (Nat.le_refl _) (.cells #[.string ⟨#[]⟩, .string ⟨#[]⟩, .string ⟨#[]⟩, .int .i64 0, .int .i64 0, .string ⟨#[]⟩, .string ⟨#[]⟩, .slice none 0 0] 26))
 have M2 := hid (heap_alloc_new w (.cells #[.string ⟨#[]⟩, .string ⟨#[]⟩, .string ⟨#[]⟩, .int .i64 0, .int .i64 0, .string ⟨#[]⟩, .string ⟨#[]⟩, .slice none 0 0] 26))
 obtain ⟨wz, hwz⟩ : ∃ wz, w.alloc (.cells #[.string ⟨#[]⟩, .string ⟨#[]⟩, .string ⟨#[]⟩, .int .i64 0, .int .i64 0, .string ⟨#[]⟩, .string ⟨#[]⟩, .slice none 0 0] 26) = wz := ⟨_, rfl⟩
 rw [hwz] at HB0 M2
 have HR := hid (code_below hcr HB0.out)
 have HD := hid hD
 have HSZ := hid (show w.heap.size < wz.heap.size from lt_of_heap M2.out)
 clear hcr hD
 go_enter Tryz.func18, Tryz.ntmps18
 go_wp2_with fail
 refine (cNew a len cap _ hlen HR.out).mono ?_
 rintro e w1 ⟨rfl, hC1⟩
 have HC1 := hid hC1
 clear hC1 hwz
 go_wp2_with fail
 refine (cDrawAny14 wz a len cap _ _ hlen HR.out HC1.out (fun wx h => (HD.out wz a len cap _ wx hlen HR.out h).mono (fun _ _ => DrewR.c))).mono ?_
 rintro e w2 ⟨c, v, rfl, hown, hz, h4, hC2, hG2⟩
 obtain ⟨av, cv, hv, hoa⟩ := qa_own hown
 subst hv
 have HOA := hid hoa
 have HZ := hid (sz_more hz (show 100 <= 1048576 by decide))
 have HB2 := hid (bb HB0.out hC2.2.1)
 have HL1 := hid (show w.heap.size < w1.heap.size from Nat.lt_of_lt_of_le HSZ.out HC1.out.size)
 obtain ⟨⟨y0, y1, y2, y3, y4, y5, y6, y7⟩, yf0, yf1, yf2, yf3, yf4, yf5, yf6, yf7⟩ := box8 (blk_below M2.out hC2.2.1)
 clear hown hz h4 hC2 hG2 hoa
 unfold clV
 go_wp2_with fail
 refine bodyPost_ret (v := cmV c av cv) (by simp [results, Tryz.results18, go_sem, cmV, y0, y1, y2, y3, y4, y5, y6, y7]) rfl ⟨c, av, cv, rfl, ?_, HZ.out, ?_⟩
 ·refine own_lift (B' := w1.heap.size) ?_ (Nat.le_of_lt HL1.out)
  iterate 8 refine own_setR ?_ HL1.out
  exact HOA.out
 ·iterate 8 refine Below.setCell ?_ (show w.heap.size <= w.heap.size from Nat.le_refl _) _
  exact HB2.out

set_option maxRecDepth 8000 in
set_option maxHeartbeats 4000000 in
theorem cDrawClaimTree (hD : L14) (a : Option Addr) (len cap : Nat) (w : World) (hlen : len <= 4096) (hcr : CodeRow w a len) :
  Calls Tryz.prog 5 #[.slice a len cap] w (DrawnC w) := by
 have HB0 := hid ((Below.refl w.heap.size w).alloc (Nat.le_refl _) (.cells #[.string ⟨#[]⟩, .string ⟨#[]⟩, .string ⟨#[]⟩, .int .i64 0, .int .i64 0, .string ⟨#[]⟩, .string ⟨#[]⟩, .slice none 0 0] 26))
 have M2 := hid (heap_alloc_new w (.cells #[.string ⟨#[]⟩, .string ⟨#[]⟩, .string ⟨#[]⟩, .int .i64 0, .int .i64 0, .string ⟨#[]⟩, .string ⟨#[]⟩, .slice none 0 0] 26))
 obtain ⟨wz, hwz⟩ : ∃ wz, w.alloc (.cells #[.string ⟨#[]⟩, .string ⟨#[]⟩, .string ⟨#[]⟩, .int .i64 0, .int .i64 0, .string ⟨#[]⟩, .string ⟨#[]⟩, .slice none 0 0] 26) = wz := ⟨_, rfl⟩
 rw [hwz] at HB0 M2
 have HD := hid (cDrawClaimOk hD a len cap wz hlen (code_below hcr HB0.out))
 have HSZ := hid (show w.heap.size < wz.heap.size from lt_of_heap M2.out)
 clear hcr hD
 go_enter Tryz.func5, Tryz.ntmps5
 go_wp2_with fail
 refine HD.out.mono ?_
 rintro e w2 ⟨c, av, cv, rfl, hR, hz, hb2⟩
 have HRR := hid hR
 have HZ := hid hz
 have HB2 := hid (bb HB0.out hb2)
 obtain ⟨⟨y0, y1, y2, y3, y4, y5, y6, y7⟩, yf0, yf1, yf2, yf3, yf4, yf5, yf6, yf7⟩ := box8 (blk_below M2.out hb2)
 clear hR hz hb2 hwz
 unfold cmV
 go_wp2_with fail
 refine bodyPost_ret (v := cmV c av cv) (by simp [results, Tryz.results5, go_sem, cmV, y0, y1, y2, y3, y4, y5, y6, y7]) rfl ⟨c, av, cv, rfl, ?_, HZ.out, ?_⟩
 ·refine OwnAts.rd (B := wz.heap.size) ?_
  iterate 8 refine own_setR ?_ HSZ.out
  exact HRR.out
 ·iterate 8 refine Below.setCell ?_ (show w.heap.size <= w.heap.size from Nat.le_refl _) _
  exact HB2.out

end Go.Proofs.YtlpbbkaelbafdaaGreatDoor

namespace Go.Proofs.YtlpbbkaelbafdaaGreatDoor
open Go.RowKit

def StrC (w : World) (m : Nat) (p : Addr) : Prop := ∃ s : ByteArray, w.cell? p = some (.string s) /\ s.size <= m /\ w.frozen? p = false

def StrR (B : Nat) (w : World) (m : Nat) (a : Option Addr) (n : Nat) : Prop := ∀ j, j < n -> ∃ b o, a = some ⟨b, o, none⟩ /\ (B <= b /\ b < w.heap.size) /\ StrC w m ⟨b, o + j * 2, none⟩ /\ StrC w m ⟨b, o + j * 2 + 1, none⟩

def ShapeR (B : Nat) (w : World) (m : Nat) (a : Option Addr) (n : Nat) : Prop := ∀ j, j < n -> ∃ b o k aa nA ca, a = some ⟨b, o, none⟩ /\ (B <= b /\ b < w.heap.size) /\ w.cell? ⟨b, o + j * 4, none⟩ = some (.int .i64 k) /\ StrC w m ⟨b, o + j * 4 + 1, none⟩ /\ w.cell? ⟨b, o + j * 4 + 2, none⟩ = some (.slice aa nA ca) /\ nA <= m /\ StrC w m ⟨b, o + j * 4 + 3, none⟩ /\ StrR B w m aa nA

structure Wrote (m : Nat) (w w' : World) : Prop where
 size : w'.heap.size = w.heap.size
 str : ∀ p, StrC w m p -> StrC w' m p
 oth : ∀ p v, w.cell? p = some v -> (∀ s, ¬ v = .string s) -> w'.cell? p = some v

theorem Wrote.refl (m : Nat) (w : World) : Wrote m w w := ⟨rfl, fun _ h => h, fun _ _ h _ => h⟩

theorem Wrote.trans {m : Nat} {a b c : World} (h : Wrote m a b) (k : Wrote m b c) : Wrote m a c := ⟨k.size.trans h.size, fun p q => k.str p (h.str p q), fun p v q n => k.oth p v (h.oth p v q n) n⟩

theorem Wrote.drew {m : Nat} {a b : World} (h : Wrote m a b) : Wrote m a b.drew := ⟨h.size, h.str, h.oth⟩

theorem wrote_set {m : Nat} {w : World} {b i : Nat} {s : ByteArray} (h : StrC w m ⟨b, i, none⟩) (hs : s.size <= m) : Wrote m w (w.setCell ⟨b, i, none⟩ (.string s)) := by
 obtain ⟨s0, h1, h2, h3⟩ := h
 refine ⟨by simp [World.setCell], fun p hp => ?_, fun p v hv hn => ?_⟩
 ·obtain ⟨u, u1, u2, u3⟩ := hp
  by_cases e : (⟨b, i, none⟩ : Addr) = p
  ·subst e
   exact ⟨s, World.cell?_setCell_same _ _ _ h1, hs, by rw [World.frozen?_setCell]; exact u3⟩
  ·exact ⟨u, by rw [World.cell?_setCell_other _ _ _ _ e]; exact u1, u2, by rw [World.frozen?_setCell]; exact u3⟩
 ·by_cases e : (⟨b, i, none⟩ : Addr) = p
  ·subst e
   rw [h1] at hv
   injection hv with hv
   exact absurd hv.symm (hn s0)
  ·rw [World.cell?_setCell_other _ _ _ _ e]; exact hv

theorem StrC.below {w w' : World} {m : Nat} {b i : Nat} (h : StrC w m ⟨b, i, none⟩) (hb : Below w.heap.size w w') (hl : b < w.heap.size) : StrC w' m ⟨b, i, none⟩ := by
 obtain ⟨s, h1, h2, h3⟩ := h
 exact ⟨s, (hb.cell (p := ⟨b, i, none⟩) hl).trans h1, h2, ((bcell hb).2 b i hl).trans h3⟩

theorem StrR.below {B : Nat} {w w' : World} {m n : Nat} {a : Option Addr} (h : StrR B w m a n) (hb : Below w.heap.size w w') : StrR B w' m a n := fun j hj => by
 obtain ⟨b, o, e, hl, h1, h2⟩ := h j hj
 exact ⟨b, o, e, ⟨hl.1, Nat.lt_of_lt_of_le hl.2 hb.size⟩, h1.below hb hl.2, h2.below hb hl.2⟩

theorem ShapeR.below {B : Nat} {w w' : World} {m n : Nat} {a : Option Addr} (h : ShapeR B w m a n) (hb : Below w.heap.size w w') : ShapeR B w' m a n := fun j hj => by
 obtain ⟨b, o, k, aa, nA, ca, e, hl, h0, h1, h2, h3, h4, h5⟩ := h j hj
 exact ⟨b, o, k, aa, nA, ca, e, ⟨hl.1, Nat.lt_of_lt_of_le hl.2 hb.size⟩, (hb.cell (p := ⟨b, o + j * 4, none⟩) hl.2).trans h0, h1.below hb hl.2, (hb.cell (p := ⟨b, o + j * 4 + 2, none⟩) hl.2).trans h2, h3, h4.below hb hl.2, h5.below hb⟩

theorem StrR.wrote {B : Nat} {w w' : World} {m n : Nat} {a : Option Addr} (h : StrR B w m a n) (k : Wrote m w w') : StrR B w' m a n := fun j hj => by
 obtain ⟨b, o, e, hl, h1, h2⟩ := h j hj
 exact ⟨b, o, e, ⟨hl.1, by rw [k.size]; exact hl.2⟩, k.str _ h1, k.str _ h2⟩

theorem ShapeR.wrote {B : Nat} {w w' : World} {m n : Nat} {a : Option Addr} (h : ShapeR B w m a n) (q : Wrote m w w') : ShapeR B w' m a n := fun j hj => by
 obtain ⟨b, o, k, aa, nA, ca, e, hl, h0, h1, h2, h3, h4, h5⟩ := h j hj
 exact ⟨b, o, k, aa, nA, ca, e, by rw [q.size]; exact hl, q.oth _ _ h0 (fun s e => by cases e), q.str _ h1, q.oth _ _ h2 (fun s e => by cases e), h3, q.str _ h4, h5.wrote q⟩

theorem StrR.row {B : Nat} {w : World} {m : Nat} {a : Option Addr} : ∀ {n : Nat}, StrR B w m a n -> ∃ l : List At, l.length = n /\ AtRow w a l /\ AtSz m l
 | 0, _ => ⟨[], rfl, fun j hj => absurd hj (Nat.not_lt_zero _), fun x hx => absurd hx List.not_mem_nil⟩
 | n + 1, h => by
  obtain ⟨l, h1, h2, h3⟩ := StrR.row (n := n) (fun j hj => h j (by omega))
  obtain ⟨b, o, e, hl, ⟨s, s1, s2, _⟩, ⟨t, t1, t2, _⟩⟩ := h n (by omega)
  refine ⟨l ++ [⟨s, t⟩], by simp [h1], fun j hj => ?_, fun x hx => ?_⟩
  ·by_cases hjl : j < l.length
   ·obtain ⟨b', o', e', hl', c1, c2⟩ := h2 j hjl
    exact ⟨b', o', e', hl', by rw [List.getElem_append_left hjl]; exact c1, by rw [List.getElem_append_left hjl]; exact c2⟩
   ·have hj' : j = n := by rw [List.length_append] at hj; have : [(⟨s, t⟩ : At)].length = 1 := rfl; omega
    have e0 : (l ++ [(⟨s, t⟩ : At)])[j] = ⟨s, t⟩ := by
     rw [List.getElem_append_right (by omega)]
     simp
    rw [e0]
    subst hj'
    exact ⟨b, o, e, hl.2, s1, t1⟩
  ·rcases List.mem_append.1 hx with q | q
   ·exact h3 x q
   ·rw [List.mem_singleton.1 q]; exact ⟨s2, t2⟩

theorem ShapeR.row {B : Nat} {w : World} {m : Nat} {a : Option Addr} : ∀ {n : Nat}, ShapeR B w m a n -> ∃ ts : List Tk, ts.length = n /\ TkRow w a ts /\ TksSz m ts
 | 0, _ => ⟨[], rfl, fun j hj => absurd hj (Nat.not_lt_zero _), fun x hx => absurd hx List.not_mem_nil⟩
 | n + 1, h => by
  obtain ⟨l, h1, h2, h3⟩ := ShapeR.row (n := n) (fun j hj => h j (by omega))
  obtain ⟨b, o, k, aa, nA, ca, e, hl, c0, ⟨s, s1, s2, _⟩, c2, hnA, ⟨t, t1, t2, _⟩, hr⟩ := h n (by omega)
  obtain ⟨at0, r1, r2, r3⟩ := hr.row
  refine ⟨l ++ [⟨k, s, at0, t⟩], by simp [h1], fun j hj => ?_, fun x hx => ?_⟩
  ·by_cases hjl : j < l.length
   ·have := h2 j hjl
    rw [List.getElem_append_left hjl]
    exact this
   ·have hj' : j = n := by rw [List.length_append] at hj; have : [(⟨k, s, at0, t⟩ : Tk)].length = 1 := rfl; omega
    have e0 : (l ++ [(⟨k, s, at0, t⟩ : Tk)])[j] = ⟨k, s, at0, t⟩ := by
     rw [List.getElem_append_right (by omega)]
     simp
    rw [e0]
    subst hj'
    exact ⟨b, o, aa, ca, e, hl.2, c0, s1, by rw [r1]; exact c2, t1, r2⟩
  ·rcases List.mem_append.1 hx with q | q
   ·exact h3 x q
   ·rw [List.mem_singleton.1 q]
    exact ⟨s2, by show at0.length <= m; omega, r3, t2⟩

theorem slot_own {w : World} {B g n cap x : Nat} {es : List Nd.E} (ho : w.ownsRow B 42 4 (.slice (some ⟨g, 0, none⟩) n cap) n (Nd.cs es)) (hn : es.length = n) (hx : x < es.length) :
  (w.cell? ⟨g, x * 4, none⟩ = some (.int .i64 es[x].t.kind) /\ w.cell? ⟨g, x * 4 + 1, none⟩ = some (.string es[x].t.name) /\ w.cell? ⟨g, x * 4 + 2, none⟩ = some (.slice es[x].a es[x].t.attrs.length es[x].cap) /\ w.cell? ⟨g, x * 4 + 3, none⟩ = some (.string es[x].t.text)) /\ ∀ j, w.frozen? ⟨g, j, none⟩ = false := by
 obtain ⟨k0, k1, k2, k3⟩ := Nd.cs_get es x hx
 exact ⟨⟨by rw [ho.cellAt _ (by omega)]; exact k0, by rw [ho.cellAt _ (by omega)]; exact k1, by rw [ho.cellAt _ (by omega)]; exact k2, by rw [ho.cellAt _ (by omega)]; exact k3⟩, fun j => ho.frozenAt j⟩

theorem RowOf.shape {w wr : World} {v : Value} {L : List Tk} (h : RowOf w wr v L) {m : Nat} (hz : TksSz m L) : ∃ a c, v = .slice a L.length c /\ ShapeR w.heap.size wr m a L.length := by
 obtain ⟨es, a, c, rfl, hr, hm, hl⟩ := h.open
 refine ⟨a, c, by rw [hl], fun j hj => ?_⟩
 have hje : j < es.length := by omega
 rcases hr.own.2 with ⟨_, h0⟩ | ⟨g, cap, cur, hv, hB, hg, hn, hc, hs, ht⟩
 ·omega
 ·injection hv with e1 e2 e3
  subst e1 e3
  obtain ⟨⟨k0, k1, k2, k3⟩, _⟩ := slot_own (show wr.ownsRow w.heap.size 42 4 (.slice (some ⟨g, 0, none⟩) es.length c) es.length (Nd.cs es) from hr.own) rfl hje
  have ez : TkSz m es[j].t := hz _ (by rw [<- hm]; exact List.mem_map.2 ⟨_, List.getElem_mem hje, rfl⟩)
  have fz := fun i => Lib.frozen_of_heap hg i
  refine ⟨g, 0, es[j].t.kind, es[j].a, es[j].t.attrs.length, es[j].cap, rfl, ⟨hB, lt_of_heap hg⟩, by rw [Nat.zero_add]; exact k0, ⟨_, by rw [Nat.zero_add]; exact k1, ez.1, fz _⟩, by rw [Nat.zero_add]; exact k2, ez.2.1, ⟨_, by rw [Nat.zero_add]; exact k3, ez.2.2.2, fz _⟩, fun i hi => ?_⟩
  obtain ⟨g', o', cu, e', hB', hh, hcs⟩ := (hr.ats _ (List.getElem_mem hje)).1 (by omega)
  have fz' := fun i => Lib.frozen_of_heap hh i
  have zz := ez.2.2.1 _ (List.getElem_mem hi)
  exact ⟨g', o', e', ⟨hB', lt_of_heap hh⟩, ⟨_, by rw [Lib.cell_of_heap hh]; exact (hcs i hi).1, zz.1, fz' _⟩, ⟨_, by rw [Lib.cell_of_heap hh]; exact (hcs i hi).2, zz.2, fz' _⟩⟩

theorem StrC.grown {w w' : World} {m b i : Nat} {r : Nat} (h : StrC w m ⟨b, i, none⟩) (hg : w.grownBy w' (some r)) (hl : b < w.heap.size) (hne : ¬ b = r) : StrC w' m ⟨b, i, none⟩ := by
 obtain ⟨s, h1, h2, h3⟩ := h
 have e := hg.block b hl (fun x => hne (Option.some.inj x))
 refine ⟨s, ?_, h2, ?_⟩
 ·rw [<- h1]; unfold World.cell?; rw [e]
 ·rw [<- h3]; unfold World.frozen?; rw [e]

theorem cell_grown14 {w w' : World} {b i r : Nat} (hg : w.grownBy w' (some r)) (hl : b < w.heap.size) (hne : ¬ b = r) : w'.cell? ⟨b, i, none⟩ = w.cell? ⟨b, i, none⟩ := by
 have e := hg.block b hl (fun x => hne (Option.some.inj x))
 unfold World.cell?
 rw [e]

theorem StrR.grown {B : Nat} {w w' : World} {m n r : Nat} {a : Option Addr} (h : StrR B w m a n) (hg : w.grownBy w' (some r)) (hr : r < B) : StrR B w' m a n := fun j hj => by
 obtain ⟨b, o, e, hl, h1, h2⟩ := h j hj
 exact ⟨b, o, e, ⟨hl.1, Nat.lt_of_lt_of_le hl.2 hg.size⟩, h1.grown hg hl.2 (by omega), h2.grown hg hl.2 (by omega)⟩

theorem ShapeR.grown {B : Nat} {w w' : World} {m n r : Nat} {a : Option Addr} (h : ShapeR B w m a n) (hg : w.grownBy w' (some r)) (hr : r < B) : ShapeR B w' m a n := fun j hj => by
 obtain ⟨b, o, k, aa, nA, ca, e, hl, h0, h1, h2, h3, h4, h5⟩ := h j hj
 have hne : ¬ b = r := by omega
 exact ⟨b, o, k, aa, nA, ca, e, ⟨hl.1, Nat.lt_of_lt_of_le hl.2 hg.size⟩, (cell_grown14 hg hl.2 hne).trans h0, h1.grown hg hl.2 hne, (cell_grown14 hg hl.2 hne).trans h2, h3, h4.grown hg hl.2 hne, h5.grown hg hr⟩

theorem StrC.more {w : World} {m m' : Nat} {p : Addr} (h : StrC w m p) (hm : m <= m') : StrC w m' p := by
 obtain ⟨s, h1, h2, h3⟩ := h
 exact ⟨s, h1, Nat.le_trans h2 hm, h3⟩

theorem ShapeR.more {B B' : Nat} {w : World} {m m' n : Nat} {a : Option Addr} (h : ShapeR B w m a n) (hm : m <= m') (hB : B' <= B) : ShapeR B' w m' a n := fun j hj => by
 obtain ⟨b, o, k, aa, nA, ca, e, hl, h0, h1, h2, h3, h4, h5⟩ := h j hj
 exact ⟨b, o, k, aa, nA, ca, e, ⟨by omega, hl.2⟩, h0, h1.more hm, h2, Nat.le_trans h3 hm, h4.more hm, fun i hi => by
  obtain ⟨b', o', e', hl', g1, g2⟩ := h5 i hi
  exact ⟨b', o', e', ⟨by omega, hl'.2⟩, g1.more hm, g2.more hm⟩⟩

theorem flat_szR {m : Nat} {h : Tk} (hh : TkSz m h) (E : List En) (hE : ∀ e ∈ E, e.name.size <= m /\ e.say.attrs.length <= m /\ AtSz m e.say.attrs /\ e.say.text.size <= m) : TksSz m (flatE h E) := by
 have key : ∀ E : List En, (∀ e ∈ E, e.name.size <= m /\ e.say.attrs.length <= m /\ AtSz m e.say.attrs /\ e.say.text.size <= m) -> TksSz m (flatE h E) := by
  refine snoc_ind (P := fun E => (∀ e ∈ E, e.name.size <= m /\ e.say.attrs.length <= m /\ AtSz m e.say.attrs /\ e.say.text.size <= m) -> TksSz m (flatE h E)) (fun _ t ht => by rw [List.mem_singleton.1 (show t ∈ [h] from ht)]; exact hh) (fun E e ih hE => ?_)
  have he := hE e (by simp)
  have hi := ih (fun x hx => hE x (by simp [hx]))
  rw [flatE_snoc, addE_is]
  intro t ht
  rcases List.mem_append.1 ht with h' | h'
  ·exact hi t h'
  ·have e0 : TkSz m ⟨0, e.name, e.say.attrs, nE⟩ := ⟨he.1, he.2.1, he.2.2.1, Nat.zero_le _⟩
   unfold newE at h'
   split at h'
   ·rw [List.mem_singleton.1 h']; exact e0
   ·rcases List.mem_cons.1 h' with rfl | h'
    ·exact e0
    ·rw [List.mem_singleton.1 h']
     exact ⟨Nat.zero_le _, Nat.zero_le _, fun x (hx : x ∈ ([] : List At)) => absurd hx List.not_mem_nil, he.2.2.2⟩
 exact key E hE

theorem says_s300 {c : Cm} (hz : CmSz 100 c) (k : Nat) : ∀ s ∈ saysL c (qTx c.frm) (qTx c.til) k, s.attrs.length <= 250 /\ AtSz 250 s.attrs /\ s.text.size <= 250 := by
 have t : ∀ (x : ByteArray), x.size <= 100 -> ∀ s ∈ txtL x, s.attrs.length <= 250 /\ AtSz 250 s.attrs /\ s.text.size <= 250 := fun x h s hs => by
  unfold txtL at hs
  split at hs
  ·cases hs
  ·rw [List.mem_singleton.1 hs]
   exact ⟨Nat.zero_le _, fun y (hy : y ∈ ([] : List At)) => absurd hy List.not_mem_nil, Nat.le_trans h (by decide)⟩
 match k with
 | 0 => exact t _ hz.2.1
 | 1 => exact t _ hz.2.2.1
 | 2 =>
  intro s hs
  have hs' : s = ⟨[⟨fromS, qTx c.frm⟩, ⟨toS, qTx c.til⟩], nE⟩ := List.mem_singleton.1 hs
  subst hs'
  refine ⟨show 2 <= 250 by decide, fun x hx => ?_, Nat.zero_le _⟩
  have hx' : x = ⟨fromS, qTx c.frm⟩ \/ x = ⟨toS, qTx c.til⟩ := by simpa using hx
  rcases hx' with rfl | rfl
  ·exact ⟨show fromS.size <= 250 by decide, Nat.le_trans (qTx_plain _).2 (by decide)⟩
  ·exact ⟨show toS.size <= 250 by decide, Nat.le_trans (qTx_plain _).2 (by decide)⟩
 | 3 => exact t _ hz.2.2.2.1
 | 4 => exact t _ hz.2.2.2.2.1
 | k + 5 =>
  intro s hs
  have hs' : s ∈ factL c.facts := hs
  unfold factL at hs'
  obtain ⟨f, hf, rfl⟩ := List.mem_map.1 hs'
  have h2 := hz.2.2.2.2.2.2 f hf
  refine ⟨show 1 <= 250 by decide, fun x hx => ?_, Nat.le_trans h2.2 (by decide)⟩
  have hx' : x = ⟨nameS, f.name⟩ := List.mem_singleton.1 hx
  subst hx'
  exact ⟨show nameS.size <= 250 by decide, Nat.le_trans h2.1 (by decide)⟩

theorem kidN_s300 (k : Nat) : (kidN k).size <= 250 := by
 unfold kidN
 split
 all_goals decide

theorem tree_s300 {c : Cm} (hz : CmSz 100 c) (h4 : c.facts.length <= 4) : TksSz 250 (treeTo c (qTx c.frm) (qTx c.til) 6) /\ 1 <= (treeTo c (qTx c.frm) (qTx c.til) 6).length /\ (treeTo c (qTx c.frm) (qTx c.til) 6).length <= 19 := by
 rw [tree_flat]
 have hl := flatE_len (headT c) (entTo c (qTx c.frm) (qTx c.til) 6)
 have h9 := entTo_len (u := qTx c.frm) (v := qTx c.til) h4
 refine ⟨flat_szR ⟨show cClaimS.size <= 250 by decide, show 2 <= 250 by decide, fun x hx => ?_, Nat.zero_le _⟩ _ ?_, (flat_all _ _).pos, by omega⟩
 ·have hx' : x = ⟨nsCS, claimS⟩ \/ x = ⟨idS, c.id⟩ := by
   rcases List.mem_cons.1 hx with h | h
   ·exact .inl h
   ·exact .inr (List.mem_singleton.1 h)
  rcases hx' with rfl | rfl
  ·exact ⟨show nsCS.size <= 250 by decide, show claimS.size <= 250 by decide⟩
  ·exact ⟨show idS.size <= 250 by decide, Nat.le_trans hz.1 (by decide)⟩
 ·have key : ∀ k, ∀ e ∈ entTo c (qTx c.frm) (qTx c.til) k, e.name.size <= 250 /\ e.say.attrs.length <= 250 /\ AtSz 250 e.say.attrs /\ e.say.text.size <= 250 := by
   intro k
   induction k with
   | zero => exact fun e he => by cases he
   | succ k ih =>
    intro e he
    have he' : e ∈ entTo c (qTx c.frm) (qTx c.til) k ++ (saysL c (qTx c.frm) (qTx c.til) k).map (fun s => (⟨kidN k, s⟩ : En)) := he
    rcases List.mem_append.1 he' with h | h
    ·exact ih e h
    ·obtain ⟨s, hs, rfl⟩ := List.mem_map.1 h
     exact ⟨kidN_s300 k, says_s300 hz k s hs⟩
  exact key 6

end Go.Proofs.YtlpbbkaelbafdaaGreatDoor
