/- Contracts of the draws of a text: of given signs, or of whatever bytes; shorter than what was asked. For the draw of attrs (l8DrawAttrs): what is known of the row and of the cursor while it runs. A pile: what is open, in a row of its own; contracts of the pile of numbers. -/
import Derived.Test.YtbiblabmhlgnoaaRows
import Derived.Test.YtbiblabmhlgnoaaM1
import Derived.Test.YtbiblabmhlgnoaaM14
import Derived.Test.YtbiblabmhlgnoaaM15
import Derived.Test.YtbiblabmhlgnoaaM12
import Derived.Test.YtbiblabmhlgnoaaM11
import Derived.WalkKit
import Derived.OwnWalk
import Derived.Deep.CutRange
import Derived.Deep.RegionWith
import Derived.Deep.QuietTactic
import Derived.BigQuiet
namespace Go.Proofs.Ytbiblabmhlgnoaa
open Go.RowKit
set_option linter.unusedVariables false
set_option linter.unusedSimpArgs false

theorem Cur.below {w0 : World} {a : Option Addr} {len cap b : Nat} {w w1 : World} (h : Cur w0 a len cap b w) (k : Below w.heap.size w w1) : Cur w0 a len cap b w1 := by
  have hlt := h.lt
  obtain ⟨hb, h2, i, x, h0, h1, hh⟩ := h
  exact ⟨hb, h2.trans (k.mono h2.size), i, x, h0, h1, (k.block b hlt).trans hh⟩

theorem snoc_byteT (acc : List UInt8) (x : UInt8) : Lib.byteCells acc ++ [.int .u8 x.toNat] = Lib.byteCells (acc ++ [x]) := by simp [Lib.byteCells]

theorem own_snocT {w : World} {B : Nat} {v : Value} {acc : List UInt8} {x : UInt8} (h : w.ownsRow B 5 1 v (acc.length + 1) (Lib.byteCells acc ++ [.int .u8 x.toNat])) : w.ownsRow B 5 1 v (acc ++ [x]).length (Lib.byteCells (acc ++ [x])) := by
  rw [← snoc_byteT, List.length_append]
  exact h

set_option maxHeartbeats 2000000 in
theorem cText (signs : ByteArray) (most : Nat) (w0 : World) (a : Option Addr) (len cap b : Nat) (w : World) (hm0 : 1 ≤ most) (hm1 : most ≤ 256) (hg0 : 1 ≤ signs.size) (hg1 : signs.size ≤ 256) (hlen : len ≤ 4096) (hcr : CodeRow w0 a len) (hC : Cur w0 a len cap b w) :
    Calls Try.prog 60 #[.pointer (some ⟨b, 0, none⟩), .string signs, .int .i64 most] w fun e w' => ∃ t : ByteArray, e = .returned (.string t) ∧ t.size < most ∧ Cur w0 a len cap b w' ∧ w.grownBy w' (some b) := by
  obtain ⟨i0, hi, hz0, hz1, hz2⟩ := info_parts info5d
  have HR : Hid (CodeRow w0 a len) := hcr
  have HC1 : Hid (Cur w0 a len cap b (w.alloc (.cells #[] 5))) := hC.alloc _
  have hw0 : w0.heap.size ≤ w.heap.size := hC.size
  have HO : Hid ((w.alloc (.cells #[] 5)).ownsRow w.heap.size 5 1 (.slice (some ⟨w.heap.size, 0, none⟩) 0 0) 0 []) := World.ownsRow_made w #[] 0 (Nat.le_refl _) (by decide) rfl
  have HG : Hid (w.grownBy (w.alloc (.cells #[] 5)) (some b)) := World.grownBy_alloc w _ _
  clear hC hcr
  go_enter Try.func60, Try.ntmps60
  go_wp2_with fail
  refine (cBelow most w0 a len cap b _ hlen HR.out HC1.out hm0 hm1).mono ?_
  rintro e w2 ⟨x0, rfl, hx0, hC2, hG2⟩
  have O2 := own_kept HC1.out HO.out hG2
  have HC2 : Hid (Cur w0 a len cap b w2) := hC2
  have HG2 : Hid (w.grownBy w2 (some b)) := gtrans HG.out hG2
  have HO2 : Hid (w2.ownsRow w.heap.size 5 1 (.slice (some ⟨w.heap.size, 0, none⟩) 0 0) 0 []) := O2
  clear O2 hC2 hG2 HC1 HG HO
  go_wp2_with fail
  go_loopw [7, 8] (fun v n wr => ∃ (m : Nat) (acc : List UInt8), n = .int .i64 m ∧ acc.length + m < most ∧ wr.ownsRow w.heap.size 5 1 v acc.length (Lib.byteCells acc) ∧ Cur w0 a len cap b wr ∧ w.grownBy wr (some b)) (fun _ n _ => (intOf n).toNat)
  case atStart => exact ⟨x0, [], rfl, by simpa using hx0, HO2.out, HC2.out, HG2.out⟩
  case round =>
    obtain ⟨m, acc, rfl, hm, hown, hCr, hGr⟩ := hrel
    by_cases hmp : 0 < m
    · have hmb : decide ((0 : Int) < (m : Int)) = true := by simp; omega
      have HOr : Hid (wr.ownsRow w.heap.size 5 1 u7 acc.length (Lib.byteCells acc)) := hown
      have HCr : Hid (Cur w0 a len cap b wr) := hCr
      have HGr : Hid (w.grownBy wr (some b)) := hGr
      clear hown hCr hGr
      go_wp2_with fail
      refine (cBelow signs.size w0 a len cap b _ hlen HR.out HCr.out hg0 hg1).mono ?_
      rintro e w3 ⟨y, rfl, hy, hC3, hG3⟩
      have O3 := own_kept HCr.out HOr.out hG3
      have hs3 : w.heap.size ≤ w3.heap.size := Nat.le_trans HGr.out.size hG3.size
      go_wp2_with (at_builtin; refine wpList_append_own _ rfl _ _ 22 rfl w.heap.size 5 i0 (.int .u8 0) 1 1 Try.underlying22 hi hz0 hz1 hz2 rfl (by decide) _ _ _ rfl (O3.alloc _) ⟨w3.heap.size, 0, none⟩ 1 1 [.int .u8 (signs[y].toNat : Int)] rfl rfl (one_cell5 _ _) (ints_one [(signs[y].toNat : Int)]) (by unfold maxLen; omega) (by omega) (by simp; omega) ?_)
      intro v' w4 hown' hgrow _
      have R := own_snocT hown'
      have C4 := (hC3.alloc (.cells #[.int .u8 (signs[y].toNat : Int)] 5)).grown hgrow (fun e => (hC3.ne O3) e.symm) (own_ge (w1 := w4) O3 hw0)
      have G4 := g_row (g_row (gtrans HGr.out hG3) (World.grownBy_alloc w3 (.cells #[.int .u8 (signs[y].toNat : Int)] 5) none) (by simp)) hgrow (own_ge (w1 := w4) O3 (Nat.le_refl _))
      clear hown' hgrow O3 hC3 hG3
      go_wp2
      go_roundw
      case rel => exact ⟨m - 1, acc ++ [signs[y]], by go_num, by simp; omega, R, C4, G4⟩
      case measure => simp [intOf]; omega
    · have hmb : decide ((0 : Int) < (m : Int)) = false := by simp; omega
      have hr := run_str_own (P := Try.prog) (src := 22) (dst := 9) Try.underlying22 Try.underlying5 Try.underlying9 hown
      clear hown
      go_wp2
      go_ret
      exact ⟨_, rfl, by show acc.toArray.size < most; simp; omega, hCr, hGr⟩

theorem byte_of (x : Int) (h0 : 0 ≤ x) (h1 : x ≤ 255) : ((UInt8.ofNat x.toNat).toNat : Int) = x := by
  have : x.toNat < 256 := by omega
  rw [UInt8.toNat_ofNat_of_lt' (by exact this)]
  omega

end Go.Proofs.Ytbiblabmhlgnoaa

namespace Go.Proofs.Ytbiblabmhlgnoaa
open Go.RowKit
set_option linter.unusedVariables false
set_option linter.unusedSimpArgs false

/-- What the draw of attrs knows: the row so far, the cursor. -/
structure DSt (w0 : World) (a : Option Addr) (len cap b : Nat) (w wr : World) (v : Value) (l : List At) : Prop where
  own : wr.ownsRow w.heap.size 66 2 v l.length (atC l)
  sz : AtSz 20 l
  cur : Cur w0 a len cap b wr
  gr : w.grownBy wr (some b)
  lt : b < w.heap.size
  le : w0.heap.size ≤ w.heap.size

section
variable {w0 : World} {a : Option Addr} {len cap b : Nat} {w wr : World} {v : Value} {l : List At}

theorem DSt.ne (h : DSt w0 a len cap b w wr v l) : v.ownBlock ≠ some b := fun e => by
  have := (h.own.lt b e).1
  have := h.lt
  omega

theorem DSt.draw {w1 : World} (h : DSt w0 a len cap b w wr v l) (hC : Cur w0 a len cap b w1) (g : wr.grownBy w1 (some b)) : DSt w0 a len cap b w w1 v l :=
  ⟨h.own.kept g (Or.inr h.ne), h.sz, hC, gtrans h.gr g, h.lt, h.le⟩

theorem DSt.alloc (h : DSt w0 a len cap b w wr v l) (o : Obj) : DSt w0 a len cap b w (wr.alloc o) v l :=
  h.draw (h.cur.alloc o) (World.grownBy_alloc wr o _)

theorem DSt.drewN (h : DSt w0 a len cap b w wr v l) (n : Nat) : DSt w0 a len cap b w (wr.drewN n) v l :=
  ⟨h.own, h.sz, h.cur.drewN n, g_drewN h.gr n, h.lt, h.le⟩

theorem g_later {w1 : World} {g : Nat} (h : w.grownBy wr (some b)) (k : wr.grownBy w1 (some g)) (hg : w.heap.size ≤ g) : w.grownBy w1 (some b) :=
  ⟨k.os.trans h.os, k.tape.trans h.tape, k.output.trans h.output, Nat.le_trans h.size k.size, fun i hi hr => (k.block i (Nat.lt_of_lt_of_le hi h.size) (fun e => by cases e; omega)).trans (h.block i hi hr)⟩

theorem DSt.set (h : DSt w0 a len cap b w wr v l) {g : Nat} (hg : w.heap.size ≤ g) (hne : ¬ v.ownBlock = some g) (j : Nat) (x : Value) : DSt w0 a len cap b w (wr.setCell ⟨g, j, none⟩ x) v l :=
  ⟨h.own.kept (Lib.grownBy_setCell wr g j x) (Or.inr hne), h.sz, h.cur.grown (Lib.grownBy_setCell wr g j x) (fun e => by cases e; have := h.lt; omega) (fun k e => by cases e; have := h.le; omega), g_later h.gr (Lib.grownBy_setCell wr g j x) hg, h.lt, h.le⟩

theorem DSt.join {w1 : World} {v' : Value} {m : List At} (h : DSt w0 a len cap b w wr v l) (hm : AtSz 20 m) (ho : w1.ownsRow w.heap.size 66 2 v' (l.length + m.length) (atC l ++ atC m)) (g : wr.grownBy w1 v.ownBlock) : DSt w0 a len cap b w w1 v' (l ++ m) := by
  have e : atC (l ++ m) = atC l ++ atC m := by unfold atC; rw [List.flatMap_append]
  refine ⟨by rw [List.length_append, e]; exact ho, fun x hx => ?_, h.cur.grown g (fun x => h.ne x.symm) (fun k x => by have := (h.own.lt k x).1; have := h.le; omega), ?_, h.lt, h.le⟩
  · rcases List.mem_append.1 hx with h' | h'
    · exact h.sz x h'
    · exact hm x h'
  · exact ⟨g.os.trans h.gr.os, g.tape.trans h.gr.tape, g.output.trans h.gr.output, Nat.le_trans h.gr.size g.size, fun i hi hr => (g.block i (Nat.lt_of_lt_of_le hi h.gr.size) (fun x => by have := (h.own.lt i x.symm).1; omega)).trans (h.gr.block i hi hr)⟩

theorem DSt.row (h : DSt w0 a len cap b w wr v l) : ∃ a' c', v = .slice a' l.length c' ∧ OwnAts wr w.heap.size a' l := by
  rcases h.own.2 with ⟨rfl, h0⟩ | ⟨g, cp, cur, rfl, hg, hh, hn, hc, hs, ht⟩
  · exact ⟨none, 0, by rw [h0], fun hl => by omega⟩
  · refine ⟨_, _, rfl, fun _ => ⟨g, 0, cur, rfl, hg, hh, fun j hj => ?_⟩⟩
    obtain ⟨g1, g2⟩ := atC_get l j hj
    rw [← ht, List.getElem?_take] at g1 g2
    refine ⟨?_, ?_⟩
    · rw [Nat.zero_add, ← Array.getElem?_toList]
      split at g1
      · exact g1
      · cases g1
    · rw [Nat.zero_add, ← Array.getElem?_toList]
      split at g2
      · exact g2
      · cases g2

end

def tabA : Obj := .cells #[.string ⟨#[97]⟩, .string ⟨#[120]⟩, .string ⟨#[112, 58, 97]⟩, .string ⟨#[113, 58, 97]⟩, .string ⟨#[112, 58, 120]⟩, .string ⟨#[110, 115]⟩, .string ⟨#[110, 115, 58, 112]⟩, .string ⟨#[73, 100]⟩] 9 (0, 0)

theorem tabA_at (w : World) (B x : Nat) (hx : x < 8) (h : w.heap[B]? = some tabA) : ∃ t : ByteArray, w.cell? ⟨B, x, none⟩ = some (.string t) ∧ t.size ≤ 7 := by
  rw [Lib.cell_of_heap h]
  rcases (show x = 0 ∨ x = 1 ∨ x = 2 ∨ x = 3 ∨ x = 4 ∨ x = 5 ∨ x = 6 ∨ x = 7 from by omega) with rfl | rfl | rfl | rfl | rfl | rfl | rfl | rfl
  all_goals exact ⟨_, rfl, by decide⟩

end Go.Proofs.Ytbiblabmhlgnoaa

namespace Go.Proofs.Ytbiblabmhlgnoaa
open Go.RowKit
set_option linter.unusedVariables false
set_option linter.unusedSimpArgs false

/-- A pile's slice lies in the o-th cell of block g; what it holds lies in a row of its own. -/
structure PileAt (E : TypeId) (s : Nat) (w : World) (B g o : Nat) (cur : Array Value) (T : TypeId) (v : Value) (n : Nat) (cs : List Value) : Prop where
  ge : B ≤ g
  blk : w.heap[g]? = some (.cells cur T (0, 0))
  at_ : cur[o]? = some v
  row : w.ownsRow B E s v n cs
  ne : T ≠ E

theorem PileAt.lt {E s w B g o cur T v n cs} (h : PileAt E s w B g o cur T v n cs) : g < w.heap.size := lt_of_heap h.blk

theorem PileAt.cell {E s w B g o cur T v n cs} (h : PileAt E s w B g o cur T v n cs) : w.cell? ⟨g, o, none⟩ = some v := by
  rw [Lib.cell_of_heap h.blk]
  exact h.at_

theorem PileAt.own_ne {E s w B g o cur T v n cs} (h : PileAt E s w B g o cur T v n cs) : v.ownBlock ≠ some g := by
  intro e
  rcases h.row.2 with ⟨rfl, _⟩ | ⟨b, cap, c, rfl, _, hh, _⟩
  · cases e
  · have : b = g := Option.some.inj e
    subst this
    rw [h.blk] at hh
    injection hh with hh
    injection hh with _ h2 _
    exact h.ne h2

theorem PileAt.below {E s w w' B g o cur T v n cs} (h : PileAt E s w B g o cur T v n cs) (hb : Below w.heap.size w w') : PileAt E s w' B g o cur T v n cs :=
  ⟨h.ge, (hb.block g h.lt).trans h.blk, h.at_, ownsRow_below h.row hb, h.ne⟩

theorem own_less {w : World} {B : Nat} {E : TypeId} {s b n m cap : Nat} {xs : List Value} (h : w.ownsRow B E s (.slice (some ⟨b, 0, none⟩) n cap) n xs) (hm : m ≤ n) : w.ownsRow B E s (.slice (some ⟨b, 0, none⟩) m cap) m (xs.take (m * s)) := by
  rcases h.2 with ⟨e, _⟩ | ⟨g, c, cur, e, h1, h2, h3, h4, h5, h6⟩
  · cases e
  · injection e with e1 e2 e3
    injection e1 with e1
    injection e1 with e1 _ _
    subst e1 e3
    have hms : m * s ≤ n * s := Nat.mul_le_mul_right _ hm
    refine ⟨by rw [List.length_take, h.1]; omega, .inr ⟨b, cap, cur, rfl, h1, h2, by omega, h4, h5, ?_⟩⟩
    rw [← h6, List.take_take]
    congr 1
    omega

/-- What is set in a block that the row does not lie in. -/
theorem own_set {w : World} {B : Nat} {E : TypeId} {s n : Nat} {v : Value} {xs : List Value} (h : w.ownsRow B E s v n xs) {g : Nat} (hg : v.ownBlock ≠ some g) (o : Nat) (u : Value) : (w.setCell ⟨g, o, none⟩ u).ownsRow B E s v n xs :=
  h.kept (Lib.grownBy_setCell w g o u) (.inr hg)

/-- The pile's slice set anew. -/
theorem PileAt.mk_set {E : TypeId} {s : Nat} {w : World} {B g o : Nat} {cur : Array Value} {T : TypeId} {v : Value} (hg : B ≤ g) (hb : w.heap[g]? = some (.cells cur T (0, 0))) (ha : cur[o]? = some v) (hT : T ≠ E) {u : Value} {m : Nat} {ds : List Value} (hu : w.ownsRow B E s u m ds) (hn : u.ownBlock ≠ some g) : PileAt E s (w.setCell ⟨g, o, none⟩ u) B g o (cur.setIfInBounds o u) T u m ds := by
  refine ⟨hg, heap_setCell_same w g o cur T u hb, ?_, own_set hu hn o u, hT⟩
  have : o < cur.size := (Array.getElem?_eq_some_iff.1 ha).1
  simp [this]

theorem PileAt.set {E s w B g o cur T v n cs} (h : PileAt E s w B g o cur T v n cs) {u : Value} {m : Nat} {ds : List Value} (hu : w.ownsRow B E s u m ds) (hg : u.ownBlock ≠ some g) : PileAt E s (w.setCell ⟨g, o, none⟩ u) B g o (cur.setIfInBounds o u) T u m ds :=
  PileAt.mk_set h.ge h.blk h.at_ h.ne hu hg

theorem PileAt.drew {E s w B g o cur T v n cs} (h : PileAt E s w B g o cur T v n cs) : PileAt E s w.drew B g o cur T v n cs := ⟨h.ge, h.blk, h.at_, h.row.drew, h.ne⟩

theorem KeepB.drew {p : Nat → Prop} {w w' : World} (h : KeepB p w w') : KeepB p w w'.drew := ⟨h.os, h.tape, h.output, h.size, h.block⟩

theorem PileAt.keep {E s w w' B g o cur T v n cs x} (h : PileAt E s w B g o cur T v n cs) (hk : KeepB (fun k => k = x) w w') (h1 : g ≠ x) (h2 : v.ownBlock ≠ some x) : PileAt E s w' B g o cur T v n cs :=
  ⟨h.ge, (hk.block g h.lt h1).trans h.blk, h.at_, h.row.kept (row := some x) ⟨hk.os, hk.tape, hk.output, hk.size, fun k hk1 hk2 => hk.block k hk1 (fun e => hk2 (by rw [e]))⟩ (.inr h2), h.ne⟩

def lenV : Value → Nat
  | .slice _ n _ => n
  | _ => 0

theorem own_len {w : World} {B : Nat} {E : TypeId} {s n : Nat} {v : Value} {xs : List Value} (h : w.ownsRow B E s v n xs) : ∃ a c, v = .slice a n c := by
  rcases h.2 with ⟨rfl, rfl⟩ | ⟨g, cap, cur, rfl, _⟩
  · exact ⟨none, 0, rfl⟩
  · exact ⟨_, _, rfl⟩

theorem own_pos {w : World} {B : Nat} {E : TypeId} {s n : Nat} {v : Value} {xs : List Value} (h : w.ownsRow B E s v n xs) (hn : 0 < n) : ∃ b c, v = .slice (some ⟨b, 0, none⟩) n c ∧ b < w.heap.size ∧ B ≤ b ∧ n ≤ c ∧ ∀ j, j < n * s → w.cell? ⟨b, j, none⟩ = xs[j]? := by
  rcases h.2 with ⟨rfl, rfl⟩ | ⟨g, cap, cur, rfl, hB, hh, hc, _, hs, ht⟩
  · omega
  · refine ⟨g, cap, rfl, lt_of_heap hh, hB, hc, fun j hj => ?_⟩
    rw [Lib.cell_of_heap hh, ← ht, List.getElem?_take, if_pos hj, Array.getElem?_toList]

/-- Numbers, the top first. -/
abbrev PileI (w : World) (B g o : Nat) (cur : Array Value) (T : TypeId) (v : Value) (L : List Nat) : Prop := PileAt 2 1 w B g o cur T v L.length (intC L.reverse)

theorem rev_last (x : Nat) (L : List Nat) : (intC (x :: L).reverse)[L.length]? = some (.int .i64 (x : Int)) := by
  rw [List.reverse_cons, intC_app, List.getElem?_append_right (by rw [intC_len, List.length_reverse]; exact Nat.le_refl _)]
  simp [intC]

theorem rev_take (x : Nat) (L : List Nat) : (intC (x :: L).reverse).take (L.length * 1) = intC L.reverse := by
  rw [List.reverse_cons, intC_app, List.take_left' (by rw [intC_len, List.length_reverse, Nat.mul_one])]

theorem PileAt.less {w : World} {B g o b c n : Nat} {cur : Array Value} {T : TypeId} {x : Nat} {L : List Nat} (h : PileI w B g o cur T (.slice (some ⟨b, 0, none⟩) (x :: L).length c) (x :: L)) (hn : L.length = n) :
    PileI (w.setCell ⟨g, o, none⟩ (.slice (some ⟨b, 0, none⟩) n c)) B g o (cur.setIfInBounds o (.slice (some ⟨b, 0, none⟩) n c)) T (.slice (some ⟨b, 0, none⟩) n c) L := by
  subst hn
  have h1 := own_less (m := L.length) h.row (by rw [List.length_cons]; omega)
  rw [rev_take] at h1
  exact h.set h1 h.own_ne

set_option maxHeartbeats 1000000 in
theorem cPiSize (B g o : Nat) (cur : Array Value) (T : TypeId) (v : Value) (L : List Nat) (w : World) (h : PileI w B g o cur T v L) :
    Calls Try.prog 73 #[.pointer (some ⟨g, o, none⟩)] w fun e w' => e = .returned (.int .i64 (L.length : Nat)) ∧ w' = w := by
  have c0 := h.cell
  obtain ⟨a, c, rfl⟩ := own_len h.row
  clear h
  generalize L.length = n at *
  go_enter Try.func73, Try.ntmps73
  go_wp2
  go_ret
  exact ⟨rfl, rfl⟩

set_option maxHeartbeats 1000000 in
theorem cPiTop0 (B g o : Nat) (cur : Array Value) (T : TypeId) (v : Value) (w : World) (h : PileI w B g o cur T v []) :
    Calls Try.prog 101 #[.pointer (some ⟨g, o, none⟩)] w fun e w' => e = .returned (.tuple #[.int .i64 0, .bool false]) ∧ Below w.heap.size w w' := by
  have c0 := h.cell
  obtain ⟨a, c, rfl⟩ := own_len h.row
  clear h
  go_enter Try.func101, Try.ntmps101
  go_wp2
  go_ret2
  exact ⟨rfl, Below.refl _ _⟩

set_option maxHeartbeats 1000000 in
theorem cPiTop (B g o : Nat) (cur : Array Value) (T : TypeId) (v : Value) (x : Nat) (L : List Nat) (w : World) (h : PileI w B g o cur T v (x :: L)) (hn : L.length ≤ 1048576) :
    Calls Try.prog 101 #[.pointer (some ⟨g, o, none⟩)] w fun e w' => e = .returned (.tuple #[.int .i64 (x : Int), .bool true]) ∧ Below w.heap.size w w' := by
  have c0 := h.cell
  obtain ⟨b, c, rfl, hb, _, hc, hcs⟩ := own_pos h.row (Nat.succ_pos _)
  have c1 := hcs L.length (by rw [List.length_cons]; omega)
  rw [rev_last] at c1
  clear h hcs
  rw [List.length_cons] at c0 hc
  obtain ⟨n, hnn⟩ : ∃ n, L.length = n := ⟨_, rfl⟩
  rw [hnn] at c0 c1 hn hc
  clear hnn
  have hq : ((n + 1 : Nat) : Int) = (n : Int) + 1 := by omega
  have hd : (((n : Int) + 1) == 0) = false := by simp; omega
  go_enter Try.func101, Try.ntmps101
  go_wp2_with fail
  go_quiet (fail)
  go_wp2_with fail
  go_ret2
  exact ⟨rfl, below_drewN (Below.refl _ _) _⟩

end Go.Proofs.Ytbiblabmhlgnoaa
