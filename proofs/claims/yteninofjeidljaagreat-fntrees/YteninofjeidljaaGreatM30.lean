/- Contracts of the draws of a text: of given signs, or of whatever bytes; shorter than what was asked. The draw of a text of given signs, none of which is a ! or a -. For the draw of attrs (l8DrawAttrs): what is known of the row and of the cursor while it runs. Contracts of the draws of a great number below another; the bytes that a draw is made of. -/
import Derived.Test.YteninofjeidljaaGreatRows
import Derived.Test.YteninofjeidljaaGreatM1
import Derived.Test.YteninofjeidljaaGreatM29
import Derived.Test.YteninofjeidljaaGreatM7
import Derived.Test.YteninofjeidljaaGreatM8
import Derived.WalkKit
import Derived.OwnWalk
import Derived.Deep.CutRange
import Derived.Deep.RegionWith
import Derived.OpenShut
namespace Go.Proofs.YteninofjeidljaaGreat

open Go.RowKit

set_option linter.unusedVariables false

set_option linter.unusedSimpArgs false

theorem Cur.below {w0 : World} {a : Option Addr} {len cap b : Nat} {w w1 : World} (h : Cur w0 a len cap b w) (k : Below w.heap.size w w1) : Cur w0 a len cap b w1 := by
  have hlt := h.lt
  obtain ⟨hb, h2, i, x, h0, h1, hh⟩ := h
  exact ⟨hb, h2.trans (k.mono h2.size), i, x, h0, h1, (k.block b hlt).trans hh⟩

theorem snoc_byteT (acc : List UInt8) (x : UInt8) : Lib.byteCells acc ++ [.int .u8 x.toNat] = Lib.byteCells (acc ++ [x]) := by simp [Lib.byteCells]

theorem own_snocT {w : World} {B : Nat} {v : Value} {acc : List UInt8} {x : UInt8} (h : w.ownsRow B 5 1 v (acc.length + 1) (Lib.byteCells acc ++ [.int .u8 x.toNat])) : w.ownsRow B 5 1 v (acc ++ [x]).length (Lib.byteCells (acc ++ [x])) := by
  rw [← snoc_byteT, List.length_append]
  exact h

end Go.Proofs.YteninofjeidljaaGreat

namespace Go.Proofs.YteninofjeidljaaGreat

open Go.RowKit

set_option linter.unusedVariables false

set_option linter.unusedSimpArgs false

/-- No ! and no -. -/
def cleanB (c : UInt8) : Bool := !decide (c = 33) && !decide (c = 45)

/-- The size of a text without them; of others a million. -/
def vz (s : ByteArray) : Nat := if s.data.toList.all cleanB = true then s.size else 1000000

theorem vz_of {s : ByteArray} (h : s.data.toList.all cleanB = true) : vz s = s.size := if_pos h

theorem vz_size {s : ByteArray} {n : Nat} (h : vz s ≤ n) (hn : n < 1000000) : s.size ≤ n ∧ s.data.toList.all cleanB = true := by
  unfold vz at h
  split at h
  · rename_i q
    exact ⟨h, q⟩
  · omega

theorem vz_app (a b : ByteArray) : vz (a ++ b) ≤ vz a + vz b := by
  unfold vz
  have e : (a ++ b).data.toList = a.data.toList ++ b.data.toList := by simp
  rw [e, List.all_append, ByteArray.size_append]
  cases a.data.toList.all cleanB <;> cases b.data.toList.all cleanB <;> simp

set_option maxHeartbeats 2000000 in
theorem cTextV (signs : ByteArray) (most : Nat) (w0 : World) (a : Option Addr) (len cap b : Nat) (w : World) (hm0 : 1 ≤ most) (hm1 : most ≤ 256) (hg0 : 1 ≤ signs.size) (hg1 : signs.size ≤ 256) (hcl : signs.data.toList.all cleanB = true) (hlen : len ≤ 4096) (hcr : CodeRow w0 a len) (hC : Cur w0 a len cap b w) :
    Calls Tryz.prog 96 #[.pointer (some ⟨b, 0, none⟩), .string signs, .int .i64 most] w fun e w' => ∃ t : ByteArray, e = .returned (.string t) ∧ vz t < most ∧ Cur w0 a len cap b w' ∧ w.grownBy w' (some b) := by
  obtain ⟨i0, hi, hz0, hz1, hz2⟩ := info_parts info5d
  have HR : Hid (CodeRow w0 a len) := hcr
  have HC1 : Hid (Cur w0 a len cap b (w.alloc (.cells #[] 5))) := hC.alloc _
  have hw0 : w0.heap.size ≤ w.heap.size := hC.size
  have HO : Hid ((w.alloc (.cells #[] 5)).ownsRow w.heap.size 5 1 (.slice (some ⟨w.heap.size, 0, none⟩) 0 0) 0 []) := World.ownsRow_made w #[] 0 (Nat.le_refl _) (by decide) rfl
  have HG : Hid (w.grownBy (w.alloc (.cells #[] 5)) (some b)) := World.grownBy_alloc w _ _
  have HCL := hid (show ∀ i (hi : i < signs.size), cleanB signs[i] = true from fun i hi => List.all_eq_true.1 hcl _ (List.getElem_mem _))
  clear hC hcr hcl
  go_enter Tryz.func96, Tryz.ntmps96
  go_wp2_with fail
  refine (cBelow most w0 a len cap b _ hlen HR.out HC1.out hm0 hm1).mono ?_
  rintro e w2 ⟨x0, rfl, hx0, hC2, hG2⟩
  have O2 := own_kept HC1.out HO.out hG2
  have HC2 : Hid (Cur w0 a len cap b w2) := hC2
  have HG2 : Hid (w.grownBy w2 (some b)) := gtrans HG.out hG2
  have HO2 : Hid (w2.ownsRow w.heap.size 5 1 (.slice (some ⟨w.heap.size, 0, none⟩) 0 0) 0 []) := O2
  clear O2 hC2 hG2 HC1 HG HO
  go_wp2_with fail
  go_loopw [7, 8] (fun v n wr => ∃ (m : Nat) (acc : List UInt8), n = .int .i64 m ∧ acc.length + m < most ∧ Hid (acc.all cleanB = true) ∧ wr.ownsRow w.heap.size 5 1 v acc.length (Lib.byteCells acc) ∧ Cur w0 a len cap b wr ∧ w.grownBy wr (some b)) (fun _ n _ => (intOf n).toNat)
  case atStart => exact ⟨x0, [], rfl, by simpa using hx0, rfl, HO2.out, HC2.out, HG2.out⟩
  case round =>
    obtain ⟨m, acc, rfl, hm, HAC, hown, hCr, hGr⟩ := hrel
    by_cases hmp : 0 < m
    · have hmb : decide ((0 : Int) < (m : Int)) = true := by simp; omega
      have HOr : Hid (wr.ownsRow w.heap.size 5 1 u7 acc.length (Lib.byteCells acc)) := hown
      have HCr : Hid (Cur w0 a len cap b wr) := hCr
      have HGr : Hid (w.grownBy wr (some b)) := hGr
      clear hown hCr hGr
      go_wp2_with fail
      refine (cBelow signs.size w0 a len cap b _ hlen HR.out HCr.out hg0 hg1).mono ?_
      rintro e w3 ⟨y, rfl, hy, hC3, hG3⟩
      have O3 := own_kept HCr.out HOr.out hG3
      have hs3 : w.heap.size ≤ w3.heap.size := Nat.le_trans HGr.out.size hG3.size
      go_wp2_with (at_builtin; refine wpList_append_own _ rfl _ _ 22 rfl w.heap.size 5 i0 (.int .u8 0) 1 1 Tryz.underlying22 hi hz0 hz1 hz2 rfl (by decide) _ _ _ rfl (O3.alloc _) ⟨w3.heap.size, 0, none⟩ 1 1 [.int .u8 (signs[y].toNat : Int)] rfl rfl (one_cell5 _ _) (ints_one [(signs[y].toNat : Int)]) (by unfold maxLen; omega) (by omega) (by simp; omega) ?_)
      intro v' w4 hown' hgrow _
      have R := own_snocT hown'
      have C4 := (hC3.alloc (.cells #[.int .u8 (signs[y].toNat : Int)] 5)).grown hgrow (fun e => (hC3.ne O3) e.symm) (own_ge (w1 := w4) O3 hw0)
      have G4 := g_row (g_row (gtrans HGr.out hG3) (World.grownBy_alloc w3 (.cells #[.int .u8 (signs[y].toNat : Int)] 5) none) (by simp)) hgrow (own_ge (w1 := w4) O3 (Nat.le_refl _))
      clear hown' hgrow O3 hC3 hG3
      go_wp2
      go_roundw
      case rel => exact ⟨m - 1, acc ++ [signs[y]], by go_num, by simp; omega, by show List.all _ _ = true; rw [List.all_append, HAC.out, Bool.true_and, List.all_cons, List.all_nil, HCL.out y hy]; rfl, R, C4, G4⟩
      case measure => simp [intOf]; omega
    · have hmb : decide ((0 : Int) < (m : Int)) = false := by simp; omega
      have hr := run_str_own (P := Tryz.prog) (src := 22) (dst := 9) Tryz.underlying22 Tryz.underlying5 Tryz.underlying9 hown
      clear hown
      go_wp2
      go_ret
      exact ⟨_, rfl, by rw [vz_of (s := ⟨acc.toArray⟩) (by simpa using HAC.out)]; show acc.toArray.size < most; simp; omega, hCr, hGr⟩

end Go.Proofs.YteninofjeidljaaGreat

namespace Go.Proofs.YteninofjeidljaaGreat

open Go.RowKit

set_option linter.unusedVariables false

set_option linter.unusedSimpArgs false

/-- Attrs of few signs, their values without ! and -. -/
def AtV (n : Nat) (l : List At) : Prop := ∀ x ∈ l, x.name.size ≤ n ∧ vz x.value ≤ n

def TkV (n : Nat) (t : Tk) : Prop := t.name.size ≤ n ∧ t.attrs.length ≤ n ∧ AtV n t.attrs ∧ vz t.text ≤ n

def TksV (n : Nat) (ts : List Tk) : Prop := ∀ t ∈ ts, TkV n t

theorem atv_big {n : Nat} {l : List At} (h : AtV n l) (hn : n < 1000000) : AtSz 1048576 l := fun x hx => by
  have h1 := (h x hx).1
  have h2 := (vz_size (h x hx).2 hn).1
  exact ⟨by omega, by omega⟩

theorem tkv_big {n : Nat} {t : Tk} (h : TkV n t) (hn : n < 1000000) : TkSz 1048576 t := by
  obtain ⟨h1, h2, h3, h4⟩ := h
  have h5 := (vz_size h4 hn).1
  exact ⟨by omega, by omega, atv_big h3 hn, by omega⟩

theorem tksv_big {n : Nat} {ts : List Tk} (h : TksV n ts) (hn : n < 1000000) : TksSz 1048576 ts := fun t ht => by
  obtain ⟨h1, h2, h3, h4⟩ := h t ht
  have h5 := (vz_size h4 hn).1
  exact ⟨by omega, by omega, atv_big h3 hn, by omega⟩

/-- What the draw of attrs knows: the row so far, the cursor. -/
structure DSt (w0 : World) (a : Option Addr) (len cap b : Nat) (w wr : World) (v : Value) (l : List At) : Prop where
  own : wr.ownsRow w.heap.size 114 2 v l.length (atC l)
  sz : AtV 20 l
  cur : Cur w0 a len cap b wr
  gr : w.grownBy wr (some b)
  lt : b < w.heap.size
  le : w0.heap.size ≤ w.heap.size

section

variable {w0 : World} {a : Option Addr} {len cap b : Nat} {w wr : World} {v : Value} {l : List At}

theorem DSt.ne (h : DSt w0 a len cap b w wr v l) : v.ownBlock ≠ some b := fun e => by
  have := (h.own.lt b e).1
  have := h.lt
  omega

theorem DSt.draw {w1 : World} (h : DSt w0 a len cap b w wr v l) (hC : Cur w0 a len cap b w1) (g : wr.grownBy w1 (some b)) : DSt w0 a len cap b w w1 v l :=
  ⟨h.own.kept g (Or.inr h.ne), h.sz, hC, gtrans h.gr g, h.lt, h.le⟩

theorem DSt.alloc (h : DSt w0 a len cap b w wr v l) (o : Obj) : DSt w0 a len cap b w (wr.alloc o) v l :=
  h.draw (h.cur.alloc o) (World.grownBy_alloc wr o _)

theorem DSt.drewN (h : DSt w0 a len cap b w wr v l) (n : Nat) : DSt w0 a len cap b w (wr.drewN n) v l :=
  ⟨h.own, h.sz, h.cur.drewN n, g_drewN h.gr n, h.lt, h.le⟩

theorem g_later {w1 : World} {g : Nat} (h : w.grownBy wr (some b)) (k : wr.grownBy w1 (some g)) (hg : w.heap.size ≤ g) : w.grownBy w1 (some b) :=
  ⟨k.os.trans h.os, k.tape.trans h.tape, k.output.trans h.output, Nat.le_trans h.size k.size, fun i hi hr => (k.block i (Nat.lt_of_lt_of_le hi h.size) (fun e => by cases e; omega)).trans (h.block i hi hr)⟩

theorem DSt.set (h : DSt w0 a len cap b w wr v l) {g : Nat} (hg : w.heap.size ≤ g) (hne : ¬ v.ownBlock = some g) (j : Nat) (x : Value) : DSt w0 a len cap b w (wr.setCell ⟨g, j, none⟩ x) v l :=
  ⟨h.own.kept (Lib.grownBy_setCell wr g j x) (Or.inr hne), h.sz, h.cur.grown (Lib.grownBy_setCell wr g j x) (fun e => by cases e; have := h.lt; omega) (fun k e => by cases e; have := h.le; omega), g_later h.gr (Lib.grownBy_setCell wr g j x) hg, h.lt, h.le⟩

theorem DSt.join {w1 : World} {v' : Value} {m : List At} (h : DSt w0 a len cap b w wr v l) (hm : AtV 20 m) (ho : w1.ownsRow w.heap.size 114 2 v' (l.length + m.length) (atC l ++ atC m)) (g : wr.grownBy w1 v.ownBlock) : DSt w0 a len cap b w w1 v' (l ++ m) := by
  have e : atC (l ++ m) = atC l ++ atC m := by unfold atC; rw [List.flatMap_append]
  refine ⟨by rw [List.length_append, e]; exact ho, fun x hx => ?_, h.cur.grown g (fun x => h.ne x.symm) (fun k x => by have := (h.own.lt k x).1; have := h.le; omega), ?_, h.lt, h.le⟩
  · rcases List.mem_append.1 hx with h' | h'
    · exact h.sz x h'
    · exact hm x h'
  · exact ⟨g.os.trans h.gr.os, g.tape.trans h.gr.tape, g.output.trans h.gr.output, Nat.le_trans h.gr.size g.size, fun i hi hr => (g.block i (Nat.lt_of_lt_of_le hi h.gr.size) (fun x => by have := (h.own.lt i x.symm).1; omega)).trans (h.gr.block i hi hr)⟩

theorem DSt.row (h : DSt w0 a len cap b w wr v l) : ∃ a' c', v = .slice a' l.length c' ∧ OwnAts wr w.heap.size a' l := by
  rcases h.own.2 with ⟨rfl, h0⟩ | ⟨g, cp, cur, rfl, hg, hh, hn, hc, hs, ht⟩
  · exact ⟨none, 0, by rw [h0], fun hl => by omega⟩
  · refine ⟨_, _, rfl, fun _ => ⟨g, 0, cur, rfl, hg, hh, fun j hj => ?_⟩⟩
    obtain ⟨g1, g2⟩ := atC_get l j hj
    rw [← ht, List.getElem?_take] at g1 g2
    refine ⟨?_, ?_⟩
    · rw [Nat.zero_add, ← Array.getElem?_toList]
      split at g1
      · exact g1
      · cases g1
    · rw [Nat.zero_add, ← Array.getElem?_toList]
      split at g2
      · exact g2
      · cases g2

end

def tabA : Obj := .cells #[.string ⟨#[97]⟩, .string ⟨#[120]⟩, .string ⟨#[112, 58, 97]⟩, .string ⟨#[113, 58, 97]⟩, .string ⟨#[112, 58, 120]⟩, .string ⟨#[110, 115]⟩, .string ⟨#[110, 115, 58, 112]⟩, .string ⟨#[73, 100]⟩] 9 (0, 0)

theorem tabA_at (w : World) (B x : Nat) (hx : x < 8) (h : w.heap[B]? = some tabA) : ∃ t : ByteArray, w.cell? ⟨B, x, none⟩ = some (.string t) ∧ t.size ≤ 7 := by
  rw [Lib.cell_of_heap h]
  rcases (show x = 0 ∨ x = 1 ∨ x = 2 ∨ x = 3 ∨ x = 4 ∨ x = 5 ∨ x = 6 ∨ x = 7 from by omega) with rfl | rfl | rfl | rfl | rfl | rfl | rfl | rfl
  all_goals exact ⟨_, rfl, by decide⟩

end Go.Proofs.YteninofjeidljaaGreat

namespace Go.Proofs.YteninofjeidljaaGreat

open Go.RowKit

set_option linter.unusedVariables false

set_option linter.unusedSimpArgs false

theorem code_of {w : World} {a : Option Addr} {len cap : Nat} {zs : List Int}
    (h : (a = none ∧ len = 0 ∧ cap = 0 ∧ zs = []) ∨ ∃ x, a = some x ∧ len ≤ cap ∧ cap ≤ maxLen ∧ zs.length = cap ∧ (∀ i, i < zs.length → w.cell? (x.add i) = some (.int .u8 (zs.getD i 0))) ∧ ∀ n ∈ zs, (Lit.int .u8 n).wf = true) : CodeRow w a len := by
  rcases h with ⟨_, h, _⟩ | ⟨x, rfl, hl, _, hz, hc, _⟩
  · exact .inl h
  · by_cases h0 : len = 0
    · exact .inl h0
    · obtain ⟨cb, co, rfl, hcells⟩ := ints_at hc (by omega)
      refine .inr ⟨cb, co, fun j => zs.getD j 0, rfl, ?_, fun j hj => hcells j (by omega)⟩
      have h1 := hcells 0 (by omega)
      rcases Nat.lt_or_ge cb w.heap.size with h' | h'
      · exact h'
      · simp [World.cell?, Array.getElem?_eq_none h'] at h1

theorem code_below {w w2 : World} {a : Option Addr} {len : Nat} (h : CodeRow w a len) (hb : Below w.heap.size w w2) : CodeRow w2 a len := by
  rcases h with h | ⟨cb, co, z, h1, h2, h3⟩
  · exact .inl h
  · exact .inr ⟨cb, co, z, h1, Nat.lt_of_lt_of_le h2 hb.size, fun j hj => (hb.cell (p := ⟨cb, co + j, none⟩) h2).trans (h3 j hj)⟩

theorem cBig_no (a : Option Addr) (len cap : Nat) (w : World) (h : len ≤ 4096) : Calls Tryz.prog 5 #[.slice a len cap] w fun e w' => e = .returned (.bool false) ∧ w' = w := by
  have h1 : decide ((4096 : Int) < (len : Int)) = false := by simp; omega
  go_enter Tryz.func5, Tryz.ntmps5
  go_wp2
  go_ret
  exact ⟨rfl, rfl⟩

theorem cBig_yes (a : Option Addr) (len cap : Nat) (w : World) (h : ¬ len ≤ 4096) : Calls Tryz.prog 5 #[.slice a len cap] w fun e w' => e = .returned (.bool true) ∧ w' = w := by
  have h1 : decide ((4096 : Int) < (len : Int)) = true := by simp; omega
  go_enter Tryz.func5, Tryz.ntmps5
  go_wp2
  go_ret
  exact ⟨rfl, rfl⟩

theorem four_wrap (x y z u : Int) (hx : 0 ≤ x ∧ x ≤ 255) (hy : 0 ≤ y ∧ y ≤ 255) (hz : 0 ≤ z ∧ z ≤ 255) (hu : 0 ≤ u ∧ u ≤ 255) :
    IntKind.i64.wrap (x * 16777216) = x * 16777216 ∧ IntKind.i64.wrap (y * 65536) = y * 65536 ∧ IntKind.i64.wrap (x * 16777216 + y * 65536) = x * 16777216 + y * 65536 ∧ IntKind.i64.wrap (z * 256) = z * 256
    ∧ IntKind.i64.wrap (x * 16777216 + y * 65536 + z * 256) = x * 16777216 + y * 65536 + z * 256 ∧ IntKind.i64.wrap (x * 16777216 + y * 65536 + z * 256 + u) = x * 16777216 + y * 65536 + z * 256 + u := by
  refine ⟨?_, ?_, ?_, ?_, ?_, ?_⟩ <;> exact IntWalk.i64_in _ (by omega)

theorem mod_nat (s : Int) (n : Nat) (h0 : 0 ≤ s) (hn : 1 ≤ n) : s.tmod (n : Int) = ((s.toNat % n : Nat) : Int) ∧ s % (n : Int) = ((s.toNat % n : Nat) : Int) := by
  obtain ⟨k, rfl⟩ : ∃ k : Nat, s = k := ⟨s.toNat, by omega⟩
  refine ⟨?_, ?_⟩
  · rw [Int.tmod_eq_emod_of_nonneg h0]; simp
  · simp

set_option maxHeartbeats 2000000 in
/-- A number below n, which is greater than 256. -/
theorem cBelowBig (n : Nat) (w0 : World) (a : Option Addr) (len cap b : Nat) (w : World) (hlen : len ≤ 4096) (hcr : CodeRow w0 a len) (hC : Cur w0 a len cap b w) (hn0 : 257 ≤ n) (hn1 : n ≤ 4294967296) :
    Calls Tryz.prog 45 #[.pointer (some ⟨b, 0, none⟩), .int .i64 n] w fun e w' => ∃ x : Nat, e = .returned (.int .i64 x) ∧ x < n ∧ Cur w0 a len cap b w' ∧ w.grownBy w' (some b) := by
  have HR : Hid (CodeRow w0 a len) := hcr
  have HC : Hid (Cur w0 a len cap b w) := hC
  clear hC hcr
  have hz : ¬ (n : Int) = 0 := by omega
  have d1 : decide ((n : Int) ≤ 0) = false := by simp; omega
  have d2 : decide ((n : Int) ≤ 256) = false := by simp; omega
  go_enter Tryz.func45, Tryz.ntmps45
  go_wp2_with fail
  refine (cByte w0 a len cap b _ hlen HR.out HC.out).mono ?_
  rintro e w1 ⟨x, rfl, hx0, hx1, hC1, hg1⟩
  have HC1 : Hid (Cur w0 a len cap b w1) := hC1
  have HG : Hid (w.grownBy w1 (some b)) := hg1
  clear hC1 hg1
  go_wp2_with fail
  refine (cByte w0 a len cap b _ hlen HR.out HC1.out).mono ?_
  rintro e w2 ⟨y, rfl, hy0, hy1, hC2, hg2⟩
  have HC2 : Hid (Cur w0 a len cap b w2) := hC2
  have HG2 : Hid (w.grownBy w2 (some b)) := gtrans HG.out hg2
  clear hC2 hg2
  go_wp2_with fail
  refine (cByte w0 a len cap b _ hlen HR.out HC2.out).mono ?_
  rintro e w3 ⟨z, rfl, hz0, hz1, hC3, hg3⟩
  have HC3 : Hid (Cur w0 a len cap b w3) := hC3
  have HG3 : Hid (w.grownBy w3 (some b)) := gtrans HG2.out hg3
  clear hC3 hg3
  go_wp2_with fail
  refine (cByte w0 a len cap b _ hlen HR.out HC3.out).mono ?_
  rintro e w4 ⟨u, rfl, hu0, hu1, hC4, hg4⟩
  have HC4 : Hid (Cur w0 a len cap b w4) := hC4
  have HG4 : Hid (w.grownBy w4 (some b)) := gtrans HG3.out hg4
  clear hC4 hg4
  obtain ⟨k1, k2, k3, k4, k5, k6⟩ := four_wrap x y z u ⟨hx0, hx1⟩ ⟨hy0, hy1⟩ ⟨hz0, hz1⟩ ⟨hu0, hu1⟩
  obtain ⟨s, hs⟩ : ∃ s : Int, x * 16777216 + y * 65536 + z * 256 + u = s := ⟨_, rfl⟩
  have hs0 : 0 ≤ s := by omega
  rw [hs] at k6
  obtain ⟨m1, m2⟩ := mod_nat s n hs0 (by omega)
  have hlt : s.toNat % n < n := Nat.mod_lt _ (by omega)
  obtain ⟨r, hr⟩ : ∃ r : Nat, s.toNat % n = r := ⟨_, rfl⟩
  rw [hr] at m1 m2 hlt
  clear hx0 hx1 hy0 hy1 hz0 hz1 hu0 hu1 hr
  go_wp2_with fail
  go_ret
  refine ⟨r, ?_, hlt, HC4.out, HG4.out⟩
  first | rfl | (rw [← m2]; rfl) | (rw [← m1]; rfl) | simp [m1, m2]

end Go.Proofs.YteninofjeidljaaGreat
