/- Contracts of l8Kids, KidsOf, l8Text and TextIn of the specification. A pile: what is open, in a row of its own; contracts of the pile of numbers. The reader of a letter in the program: contracts of mark, next and piece. A row of tokens of which every list owns its memory: marks in it, set and held. -/
import Derived.Test.YteninofjeidljaaGreatM6
import Derived.Test.YteninofjeidljaaGreatM1
import Derived.Test.YteninofjeidljaaGreatM3
import Derived.Test.YteninofjeidljaaGreatM4
import Derived.OwnWalk
import Derived.Deep.QuietTactic
import Derived.BigQuiet
import Derived.Deep.RegionHeld3
namespace Go.Proofs.YteninofjeidljaaGreat

open Go.RowKit

set_option linter.unusedVariables false

set_option linter.unusedSimpArgs false

/-- Nodes up to e whose parent it is. -/
def kidsTo (ts : List Tk) (k e : Nat) : List Nat := (List.range e).filter fun i => decide (k < i) && decide (parI ts i = (k : Int))

/-- Nodes whose parent it is. -/
def kidsN (ts : List Tk) (k : Nat) : List Nat := kidsTo ts k ts.length

theorem kidsTo_first (ts : List Tk) (k : Nat) : kidsTo ts k (k + 1) = [] := by
  unfold kidsTo
  rw [List.filter_eq_nil_iff]
  intro i hi
  have := List.mem_range.1 hi
  simp
  omega

theorem kidsTo_next {ts : List Tk} {k e : Nat} (h : k < e) : kidsTo ts k (e + 1) = kidsTo ts k e ++ (if parI ts e = (k : Int) then [e] else []) := by
  unfold kidsTo
  rw [List.range_succ, List.filter_append]
  congr 1
  by_cases q : parI ts e = (k : Int)
  · simp [h, q]
  · simp [q]

/-- Numbers as cells. -/
def intC (l : List Nat) : List Value := l.map fun (i : Nat) => .int .i64 (i : Int)

theorem intC_len (l : List Nat) : (intC l).length = l.length := by simp [intC]

theorem intC_app (l m : List Nat) : intC (l ++ m) = intC l ++ intC m := by simp [intC]

theorem info64 : (Tryz.prog.info? 2).map (fun i => (i.zero, i.size, i.bytes)) = some (some (.int .i64 0), 1, 8) := by kernel_rfl

theorem one_cell64 (w : World) (v : Value) : ∀ j u, [v][j]? = some u → (w.alloc (.cells #[v] 2)).cell? ((⟨w.heap.size, 0, none⟩ : Addr).add j) = some u := by
  intro j u hj
  match j, hj with
  | 0, hj => simp at hj; subst hj; simp [Addr.add]

theorem one_one64 (n : Int) : ∀ u ∈ [Value.int .i64 n], u.oneCell' = true := by
  intro u hu; simp at hu; subst hu; rfl

end Go.Proofs.YteninofjeidljaaGreat

namespace Go.Proofs.YteninofjeidljaaGreat

open Go.RowKit

set_option linter.unusedVariables false

set_option linter.unusedSimpArgs false

/-- A pile's slice lies in the o-th cell of block g; what it holds lies in a row of its own. -/
structure PileAt (E : TypeId) (s : Nat) (w : World) (B g o : Nat) (cur : Array Value) (T : TypeId) (v : Value) (n : Nat) (cs : List Value) : Prop where
  ge : B ≤ g
  blk : w.heap[g]? = some (.cells cur T (0, 0))
  at_ : cur[o]? = some v
  row : w.ownsRow B E s v n cs
  ne : T ≠ E

theorem PileAt.lt {E s w B g o cur T v n cs} (h : PileAt E s w B g o cur T v n cs) : g < w.heap.size := lt_of_heap h.blk

theorem PileAt.cell {E s w B g o cur T v n cs} (h : PileAt E s w B g o cur T v n cs) : w.cell? ⟨g, o, none⟩ = some v := by
  rw [Lib.cell_of_heap h.blk]
  exact h.at_

theorem PileAt.own_ne {E s w B g o cur T v n cs} (h : PileAt E s w B g o cur T v n cs) : v.ownBlock ≠ some g := by
  intro e
  rcases h.row.2 with ⟨rfl, _⟩ | ⟨b, cap, c, rfl, _, hh, _⟩
  · cases e
  · have : b = g := Option.some.inj e
    subst this
    rw [h.blk] at hh
    injection hh with hh
    injection hh with _ h2 _
    exact h.ne h2

theorem PileAt.below {E s w w' B g o cur T v n cs} (h : PileAt E s w B g o cur T v n cs) (hb : Below w.heap.size w w') : PileAt E s w' B g o cur T v n cs :=
  ⟨h.ge, (hb.block g h.lt).trans h.blk, h.at_, ownsRow_below h.row hb, h.ne⟩

theorem own_less {w : World} {B : Nat} {E : TypeId} {s b n m cap : Nat} {xs : List Value} (h : w.ownsRow B E s (.slice (some ⟨b, 0, none⟩) n cap) n xs) (hm : m ≤ n) : w.ownsRow B E s (.slice (some ⟨b, 0, none⟩) m cap) m (xs.take (m * s)) := by
  rcases h.2 with ⟨e, _⟩ | ⟨g, c, cur, e, h1, h2, h3, h4, h5, h6⟩
  · cases e
  · injection e with e1 e2 e3
    injection e1 with e1
    injection e1 with e1 _ _
    subst e1 e3
    have hms : m * s ≤ n * s := Nat.mul_le_mul_right _ hm
    refine ⟨by rw [List.length_take, h.1]; omega, .inr ⟨b, cap, cur, rfl, h1, h2, by omega, h4, h5, ?_⟩⟩
    rw [← h6, List.take_take]
    congr 1
    omega

/-- What is set in a block that the row does not lie in. -/
theorem own_set {w : World} {B : Nat} {E : TypeId} {s n : Nat} {v : Value} {xs : List Value} (h : w.ownsRow B E s v n xs) {g : Nat} (hg : v.ownBlock ≠ some g) (o : Nat) (u : Value) : (w.setCell ⟨g, o, none⟩ u).ownsRow B E s v n xs :=
  h.kept (Lib.grownBy_setCell w g o u) (.inr hg)

/-- The pile's slice set anew. -/
theorem PileAt.mk_set {E : TypeId} {s : Nat} {w : World} {B g o : Nat} {cur : Array Value} {T : TypeId} {v : Value} (hg : B ≤ g) (hb : w.heap[g]? = some (.cells cur T (0, 0))) (ha : cur[o]? = some v) (hT : T ≠ E) {u : Value} {m : Nat} {ds : List Value} (hu : w.ownsRow B E s u m ds) (hn : u.ownBlock ≠ some g) : PileAt E s (w.setCell ⟨g, o, none⟩ u) B g o (cur.setIfInBounds o u) T u m ds := by
  refine ⟨hg, heap_setCell_same w g o cur T u hb, ?_, own_set hu hn o u, hT⟩
  have : o < cur.size := (Array.getElem?_eq_some_iff.1 ha).1
  simp [this]

theorem PileAt.set {E s w B g o cur T v n cs} (h : PileAt E s w B g o cur T v n cs) {u : Value} {m : Nat} {ds : List Value} (hu : w.ownsRow B E s u m ds) (hg : u.ownBlock ≠ some g) : PileAt E s (w.setCell ⟨g, o, none⟩ u) B g o (cur.setIfInBounds o u) T u m ds :=
  PileAt.mk_set h.ge h.blk h.at_ h.ne hu hg

theorem PileAt.drew {E s w B g o cur T v n cs} (h : PileAt E s w B g o cur T v n cs) : PileAt E s w.drew B g o cur T v n cs := ⟨h.ge, h.blk, h.at_, h.row.drew, h.ne⟩

theorem KeepB.drew {p : Nat → Prop} {w w' : World} (h : KeepB p w w') : KeepB p w w'.drew := ⟨h.os, h.tape, h.output, h.size, h.block⟩

theorem PileAt.keep {E s w w' B g o cur T v n cs x} (h : PileAt E s w B g o cur T v n cs) (hk : KeepB (fun k => k = x) w w') (h1 : g ≠ x) (h2 : v.ownBlock ≠ some x) : PileAt E s w' B g o cur T v n cs :=
  ⟨h.ge, (hk.block g h.lt h1).trans h.blk, h.at_, h.row.kept (row := some x) ⟨hk.os, hk.tape, hk.output, hk.size, fun k hk1 hk2 => hk.block k hk1 (fun e => hk2 (by rw [e]))⟩ (.inr h2), h.ne⟩

def lenV : Value → Nat
  | .slice _ n _ => n
  | _ => 0

theorem own_len {w : World} {B : Nat} {E : TypeId} {s n : Nat} {v : Value} {xs : List Value} (h : w.ownsRow B E s v n xs) : ∃ a c, v = .slice a n c := by
  rcases h.2 with ⟨rfl, rfl⟩ | ⟨g, cap, cur, rfl, _⟩
  · exact ⟨none, 0, rfl⟩
  · exact ⟨_, _, rfl⟩

theorem own_pos {w : World} {B : Nat} {E : TypeId} {s n : Nat} {v : Value} {xs : List Value} (h : w.ownsRow B E s v n xs) (hn : 0 < n) : ∃ b c, v = .slice (some ⟨b, 0, none⟩) n c ∧ b < w.heap.size ∧ B ≤ b ∧ n ≤ c ∧ ∀ j, j < n * s → w.cell? ⟨b, j, none⟩ = xs[j]? := by
  rcases h.2 with ⟨rfl, rfl⟩ | ⟨g, cap, cur, rfl, hB, hh, hc, _, hs, ht⟩
  · omega
  · refine ⟨g, cap, rfl, lt_of_heap hh, hB, hc, fun j hj => ?_⟩
    rw [Lib.cell_of_heap hh, ← ht, List.getElem?_take, if_pos hj, Array.getElem?_toList]

/-- Numbers, the top first. -/
abbrev PileI (w : World) (B g o : Nat) (cur : Array Value) (T : TypeId) (v : Value) (L : List Nat) : Prop := PileAt 2 1 w B g o cur T v L.length (intC L.reverse)

theorem rev_last (x : Nat) (L : List Nat) : (intC (x :: L).reverse)[L.length]? = some (.int .i64 (x : Int)) := by
  rw [List.reverse_cons, intC_app, List.getElem?_append_right (by rw [intC_len, List.length_reverse]; exact Nat.le_refl _)]
  simp [intC]

theorem rev_take (x : Nat) (L : List Nat) : (intC (x :: L).reverse).take (L.length * 1) = intC L.reverse := by
  rw [List.reverse_cons, intC_app, List.take_left' (by rw [intC_len, List.length_reverse, Nat.mul_one])]

theorem PileAt.less {w : World} {B g o b c n : Nat} {cur : Array Value} {T : TypeId} {x : Nat} {L : List Nat} (h : PileI w B g o cur T (.slice (some ⟨b, 0, none⟩) (x :: L).length c) (x :: L)) (hn : L.length = n) :
    PileI (w.setCell ⟨g, o, none⟩ (.slice (some ⟨b, 0, none⟩) n c)) B g o (cur.setIfInBounds o (.slice (some ⟨b, 0, none⟩) n c)) T (.slice (some ⟨b, 0, none⟩) n c) L := by
  subst hn
  have h1 := own_less (m := L.length) h.row (by rw [List.length_cons]; omega)
  rw [rev_take] at h1
  exact h.set h1 h.own_ne

set_option maxHeartbeats 1000000 in
theorem cPiSize (B g o : Nat) (cur : Array Value) (T : TypeId) (v : Value) (L : List Nat) (w : World) (h : PileI w B g o cur T v L) :
    Calls Tryz.prog 59 #[.pointer (some ⟨g, o, none⟩)] w fun e w' => e = .returned (.int .i64 (L.length : Nat)) ∧ w' = w := by
  have c0 := h.cell
  obtain ⟨a, c, rfl⟩ := own_len h.row
  clear h
  generalize L.length = n at *
  go_enter Tryz.func59, Tryz.ntmps59
  go_wp2
  go_ret
  exact ⟨rfl, rfl⟩

set_option maxHeartbeats 1000000 in
theorem cPiTop0 (B g o : Nat) (cur : Array Value) (T : TypeId) (v : Value) (w : World) (h : PileI w B g o cur T v []) :
    Calls Tryz.prog 104 #[.pointer (some ⟨g, o, none⟩)] w fun e w' => e = .returned (.tuple #[.int .i64 0, .bool false]) ∧ Below w.heap.size w w' := by
  have c0 := h.cell
  obtain ⟨a, c, rfl⟩ := own_len h.row
  clear h
  go_enter Tryz.func104, Tryz.ntmps104
  go_wp2
  go_ret2
  exact ⟨rfl, Below.refl _ _⟩

set_option maxHeartbeats 1000000 in
theorem cPiTop (B g o : Nat) (cur : Array Value) (T : TypeId) (v : Value) (x : Nat) (L : List Nat) (w : World) (h : PileI w B g o cur T v (x :: L)) (hn : L.length ≤ 1048576) :
    Calls Tryz.prog 104 #[.pointer (some ⟨g, o, none⟩)] w fun e w' => e = .returned (.tuple #[.int .i64 (x : Int), .bool true]) ∧ Below w.heap.size w w' := by
  have c0 := h.cell
  obtain ⟨b, c, rfl, hb, _, hc, hcs⟩ := own_pos h.row (Nat.succ_pos _)
  have c1 := hcs L.length (by rw [List.length_cons]; omega)
  rw [rev_last] at c1
  clear h hcs
  rw [List.length_cons] at c0 hc
  obtain ⟨n, hnn⟩ : ∃ n, L.length = n := ⟨_, rfl⟩
  rw [hnn] at c0 c1 hn hc
  clear hnn
  have hq : ((n + 1 : Nat) : Int) = (n : Int) + 1 := by omega
  have hd : (((n : Int) + 1) == 0) = false := by simp; omega
  go_enter Tryz.func104, Tryz.ntmps104
  go_wp2_with fail
  go_quiet (fail)
  go_wp2_with fail
  go_ret2
  exact ⟨rfl, below_drewN (Below.refl _ _) _⟩

end Go.Proofs.YteninofjeidljaaGreat

namespace Go.Proofs.YteninofjeidljaaGreat

open Go.RowKit

set_option linter.unusedVariables false

set_option linter.unusedSimpArgs false

/-- A reader: the letter, where it is, where the piece begins, the text so far, the tokens. -/
structure Rdr (w : World) (g : Nat) (s : ByteArray) (p m : Nat) (tx : ByteArray) (v : Value) : Prop where
  heap : w.heap[g]? = some (.cells #[.string s, .int .i64 (p : Int), .int .i64 (m : Int), .string tx, v] 136 (0, 0))

theorem Rdr.below {w w' : World} {g : Nat} {s : ByteArray} {p m : Nat} {tx : ByteArray} {v : Value} (h : Rdr w g s p m tx v) (hb : Below w.heap.size w w') : Rdr w' g s p m tx v := ⟨(hb.block g (lt_of_heap h.heap)).trans h.heap⟩

theorem Rdr.cells {w : World} {g : Nat} {s : ByteArray} {p m : Nat} {tx : ByteArray} {v : Value} (h : Rdr w g s p m tx v) :
    (w.cell? ⟨g, 0, none⟩ = some (.string s) ∧ w.cell? ⟨g, 1, none⟩ = some (.int .i64 (p : Int)) ∧ w.cell? ⟨g, 2, none⟩ = some (.int .i64 (m : Int)) ∧ w.cell? ⟨g, 3, none⟩ = some (.string tx) ∧ w.cell? ⟨g, 4, none⟩ = some v) ∧ ∀ j, w.frozen? ⟨g, j, none⟩ = false :=
  ⟨⟨by rw [Lib.cell_of_heap h.heap]; rfl, by rw [Lib.cell_of_heap h.heap]; rfl, by rw [Lib.cell_of_heap h.heap]; rfl, by rw [Lib.cell_of_heap h.heap]; rfl, by rw [Lib.cell_of_heap h.heap]; rfl⟩, fun j => Lib.frozen_of_heap h.heap j⟩

theorem Rdr.setP {w : World} {g : Nat} {s : ByteArray} {p m : Nat} {tx : ByteArray} {v : Value} (h : Rdr w g s p m tx v) (q : Nat) : Rdr (w.setCell ⟨g, 1, none⟩ (.int .i64 (q : Int))) g s q m tx v := ⟨heap_setCell_same w g 1 _ _ _ h.heap⟩

theorem Rdr.setM {w : World} {g : Nat} {s : ByteArray} {p m : Nat} {tx : ByteArray} {v : Value} (h : Rdr w g s p m tx v) (q : Nat) : Rdr (w.setCell ⟨g, 2, none⟩ (.int .i64 (q : Int))) g s p q tx v := ⟨heap_setCell_same w g 2 _ _ _ h.heap⟩

theorem Rdr.setT {w : World} {g : Nat} {s : ByteArray} {p m : Nat} {tx : ByteArray} {v : Value} (h : Rdr w g s p m tx v) (t : ByteArray) : Rdr (w.setCell ⟨g, 3, none⟩ (.string t)) g s p m t v := ⟨heap_setCell_same w g 3 _ _ _ h.heap⟩

/-- The sign there; 0 behind the end. -/
def sgnAt (s : ByteArray) (p : Nat) : Nat := if h : p < s.size then s[p].toNat else 0

set_option maxHeartbeats 2000000 in
theorem cMark (g : Nat) (s : ByteArray) (p m : Nat) (tx : ByteArray) (v : Value) (w : World) (h : Rdr w g s p m tx v) :
    Calls Tryz.prog 140 #[.pointer (some ⟨g, 0, none⟩)] w fun e w' => e = .returned (.tuple #[]) ∧ Rdr w' g s p p tx v ∧ KeepB (fun k => k = g) w w' := by
  obtain ⟨⟨c0, c1, c2, c3, c4⟩, hf⟩ := h.cells
  have f2 := hf 2
  have HN := hid (h.setM p)
  clear h hf
  go_enter Tryz.func140, Tryz.ntmps140
  go_wp2_with fail
  go_end0
  exact ⟨rfl, HN.out, KeepB.of_set w 2 _ rfl⟩

set_option maxHeartbeats 4000000 in
theorem cNext (g : Nat) (s : ByteArray) (p m : Nat) (tx : ByteArray) (v : Value) (w : World) (h : Rdr w g s p m tx v) (hp : p ≤ 1048576) (hs : s.size ≤ 1048576) :
    Calls Tryz.prog 141 #[.pointer (some ⟨g, 0, none⟩)] w fun e w' => e = .returned (.int .u8 (sgnAt s p : Nat)) ∧ Rdr w' g s (p + 1) m tx v ∧ KeepB (fun k => k = g) w w' := by
  obtain ⟨⟨c0, c1, c2, c3, c4⟩, hf⟩ := h.cells
  have f1 := hf 1
  have HN := hid (h.setP (p + 1))
  have e1 : ((p + 1 : Nat) : Int) = (p : Int) + 1 := rfl
  rw [e1] at HN
  obtain ⟨W, hW⟩ : ∃ W, w.setCell ⟨g, 1, none⟩ (.int .i64 ((p : Int) + 1)) = W := ⟨_, rfl⟩
  rw [hW] at HN
  have HK := hid (show KeepB (fun k => k = g) w W by rw [← hW]; exact KeepB.of_set w 1 _ rfl)
  obtain ⟨⟨d0, d1, d2, d3, d4⟩, -⟩ := HN.out.cells
  rw [e1] at d1
  clear h hf e1
  by_cases hlt : p < s.size
  · have hd : decide ((p : Int) + 1 > (s.size : Int)) = false := by simp; omega
    have hl1 : ¬ ((s.size : Int) < (p : Int) + 1) := by omega
    have hl2 : (p : Int) < (s.size : Int) := by omega
    have HSG := hid (show sgnAt s p = s[p].toNat by unfold sgnAt; rw [dif_pos hlt])
    rw [HSG.out]
    go_enter Tryz.func141, Tryz.ntmps141
    go_wp2_with fail
    go_region
    go_wp2_with fail
    go_region
    go_wp2_with fail
    go_ret
    exact ⟨rfl, ⟨HN.out.heap⟩, ⟨HK.out.os, HK.out.tape, HK.out.output, HK.out.size, HK.out.block⟩⟩
  · have hl1 : (s.size : Int) < (p : Int) + 1 := by omega
    have HSG := hid (show sgnAt s p = 0 by unfold sgnAt; rw [dif_neg hlt])
    rw [HSG.out]
    go_enter Tryz.func141, Tryz.ntmps141
    go_wp2_with fail
    go_region
    go_wp2_with fail
    go_ret
    exact ⟨rfl, ⟨HN.out.heap⟩, ⟨HK.out.os, HK.out.tape, HK.out.output, HK.out.size, HK.out.block⟩⟩

/-- What stands between the mark and the sign that was read last. -/
def pieceS (s : ByteArray) (m p : Nat) : ByteArray := s.extract m (p - 1)

theorem slP (s : ByteArray) (m p : Nat) (h1 : m + 1 ≤ p) (h2 : p ≤ s.size + 1) (W : World) : (Instr.slice 9 (.string s) (some (.int .i64 (m : Int))) (some (.int .i64 ((p : Int) - 1))) none).run Tryz.prog W = .ok (.string (s.extract m (p - 1))) W := by
  obtain ⟨q, rfl⟩ : ∃ q, p = q + 1 := ⟨p - 1, by omega⟩
  have e : ((q + 1 : Nat) : Int) - 1 = (q : Int) := by omega
  rw [e]
  have h3 : (m : Int) ≤ (q : Int) := by omega
  have h4 : (q : Int) ≤ (s.size : Int) := by omega
  go_simp

set_option maxHeartbeats 4000000 in
theorem cPiece (g : Nat) (s : ByteArray) (p m : Nat) (tx : ByteArray) (v : Value) (w : World) (h : Rdr w g s p m tx v) (h1 : m + 1 ≤ p) (h2 : p ≤ s.size + 1) (hs : s.size ≤ 1048576) :
    Calls Tryz.prog 166 #[.pointer (some ⟨g, 0, none⟩)] w fun e w' => e = .returned (.string (pieceS s m p)) ∧ Below w.heap.size w w' := by
  obtain ⟨⟨c0, c1, c2, c3, c4⟩, hf⟩ := h.cells
  have hsl := slP s m p h1 h2
  have hsz : (s.extract m (p - 1)).size ≤ 1048576 := by rw [ByteArray.size_extract]; omega
  have CX := hid (fun wx => c_strings_Clone (s.extract m (p - 1)) wx hsz)
  have k0 : ∀ q : BW w, q.w.cell? ⟨g, 0, none⟩ = some (.string s) := fun q => (q.h.cell (p := ⟨g, 0, none⟩) (lt_of_heap h.heap)).trans c0
  have k1 : ∀ q : BW w, q.w.cell? ⟨g, 1, none⟩ = some (.int .i64 (p : Int)) := fun q => (q.h.cell (p := ⟨g, 1, none⟩) (lt_of_heap h.heap)).trans c1
  have k2 : ∀ q : BW w, q.w.cell? ⟨g, 2, none⟩ = some (.int .i64 (m : Int)) := fun q => (q.h.cell (p := ⟨g, 2, none⟩) (lt_of_heap h.heap)).trans c2
  have hpb : -9223372036854775808 ≤ (p : Int) - 1 ∧ (p : Int) - 1 ≤ 9223372036854775807 := by omega
  have HNB := hid (bw_any w)
  show Calls _ _ _ _ (fun e w' => e = .returned (.string (s.extract m (p - 1))) ∧ _)
  generalize s.extract m (p - 1) = X at *
  clear h hf c0 c1 c2 c3 c4 hsz
  go_enter Tryz.func166, Tryz.ntmps166
  go_wp2_with fail
  haveI := HNB.out
  refine wp_region_below (by kernel_rfl) (by kernel_rfl) (Below.refl w.heap.size w) ?_
  repeat (go_big_quiet_step ((go_at_call 89; exact calls_bw _ (CX.out _))))
  refine wpQuiet_nil ?_
  intro _ hw'
  obtain ⟨⟨wq, hwq⟩, hw''⟩ := hw'
  subst hw''
  have HWQ := hid hwq
  clear hwq k0 k1 k2
  go_wp2_with fail
  go_ret
  exact ⟨rfl, HWQ.out⟩

end Go.Proofs.YteninofjeidljaaGreat

namespace Go.Proofs.YteninofjeidljaaGreat

open Go.RowKit

set_option linter.unusedVariables false

set_option linter.unusedSimpArgs false

-- over type 49

-- over type 49

-- over type 49

-- over type 49

end Go.Proofs.YteninofjeidljaaGreat
