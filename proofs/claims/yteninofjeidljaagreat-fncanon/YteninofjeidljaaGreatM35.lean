/- Contract of the drawing function that bends a text: it answers some text, at most two bytes longer; nothing that was there turns but the cursor's block. Contracts of the draws of a text: of given signs, or of whatever bytes; shorter than what was asked. For the draw of attrs (l8DrawAttrs): what is known of the row and of the cursor while it runs. Contract of l8DrawAttrs of the specification (the draw of attrs). -/
import Derived.Test.YteninofjeidljaaGreatRows
import Derived.Test.YteninofjeidljaaGreatM1
import Derived.Test.YteninofjeidljaaGreatM34
import Derived.Test.YteninofjeidljaaGreatM10
import Derived.WalkKit
import Derived.OwnWalk
import Derived.Laws.IdiomStrings
import Derived.Deep.RegionLaw
import Derived.Deep.QuietTactic
import Derived.BigQuiet
import Derived.Deep.CutRange
import Derived.Deep.RegionWith
import Derived.Deep.RegionHeld
namespace Go.Proofs.YteninofjeidljaaGreat

open Go.RowKit

set_option linter.unusedVariables false

set_option linter.unusedSimpArgs false

/-- A slice of bytes of the call's own, from block B on, not the cursor's. -/
def Row (B b : Nat) (w : World) (v : Value) (n : Nat) : Prop :=
  ∃ g cap, ∃ xs : List Int, v = .slice (some ⟨g, 0, none⟩) n cap ∧ B ≤ g ∧ g < w.heap.size ∧ g ≠ b ∧ n ≤ cap ∧ cap ≤ maxLen ∧ xs.length = n ∧
    (∀ j, j < n → w.cell? ⟨g, j, none⟩ = some (.int .u8 (xs.getD j 0))) ∧ ∀ j, j < n → w.frozen? ⟨g, j, none⟩ = false

theorem ints_one (zs : List Int) : ∀ u ∈ zs.map (Value.int .u8), u.oneCell' = true := by
  intro u hu
  obtain ⟨x, _, rfl⟩ := List.mem_map.1 hu
  rfl

theorem info5d : (Tryz.prog.info? 5).map (fun i => (i.zero, i.size, i.bytes)) = some (some (.int .u8 0), 1, 1) := by kernel_rfl

theorem g_row {w w1 w2 : World} {b : Nat} {row : Option Nat} (h : w.grownBy w1 (some b)) (k : w1.grownBy w2 row) (hr : ∀ x, row = some x → w.heap.size ≤ x) : w.grownBy w2 (some b) :=
  ⟨k.os.trans h.os, k.tape.trans h.tape, k.output.trans h.output, Nat.le_trans h.size k.size, fun i hi hb => (k.block i (Nat.lt_of_lt_of_le hi h.size) (fun e => by have := hr i e.symm; omega)).trans (h.block i hi hb)⟩

theorem one_cell5 (w : World) (v : Value) : ∀ j u, [v][j]? = some u → (w.alloc (.cells #[v] 5)).cell? ((⟨w.heap.size, 0, none⟩ : Addr).add j) = some u := by
  intro j u hj
  match j, hj with
  | 0, hj => simp at hj; subst hj; simp [Addr.add]

theorem own_ge {w w1 : World} {B B0 : Nat} {v : Value} {n : Nat} {xs : List Value} (h : w.ownsRow B 5 1 v n xs) (hB : B0 ≤ B) : ∀ k, v.ownBlock = some k → B0 ≤ k := fun k hk => Nat.le_trans hB (h.lt k hk).1

end Go.Proofs.YteninofjeidljaaGreat

namespace Go.Proofs.YteninofjeidljaaGreat

open Go.RowKit

set_option linter.unusedVariables false

set_option linter.unusedSimpArgs false

theorem snoc_byteT (acc : List UInt8) (x : UInt8) : Lib.byteCells acc ++ [.int .u8 x.toNat] = Lib.byteCells (acc ++ [x]) := by simp [Lib.byteCells]

theorem own_snocT {w : World} {B : Nat} {v : Value} {acc : List UInt8} {x : UInt8} (h : w.ownsRow B 5 1 v (acc.length + 1) (Lib.byteCells acc ++ [.int .u8 x.toNat])) : w.ownsRow B 5 1 v (acc ++ [x]).length (Lib.byteCells (acc ++ [x])) := by
  rw [← snoc_byteT, List.length_append]
  exact h

set_option maxHeartbeats 2000000 in
theorem cText (signs : ByteArray) (most : Nat) (w0 : World) (a : Option Addr) (len cap b : Nat) (w : World) (hm0 : 1 ≤ most) (hm1 : most ≤ 256) (hg0 : 1 ≤ signs.size) (hg1 : signs.size ≤ 256) (hlen : len ≤ 4096) (hcr : CodeRow w0 a len) (hC : Cur w0 a len cap b w) :
    Calls Tryz.prog 96 #[.pointer (some ⟨b, 0, none⟩), .string signs, .int .i64 most] w fun e w' => ∃ t : ByteArray, e = .returned (.string t) ∧ t.size < most ∧ Cur w0 a len cap b w' ∧ w.grownBy w' (some b) := by
  obtain ⟨i0, hi, hz0, hz1, hz2⟩ := info_parts info5d
  have HR : Hid (CodeRow w0 a len) := hcr
  have HC1 : Hid (Cur w0 a len cap b (w.alloc (.cells #[] 5))) := hC.alloc _
  have hw0 : w0.heap.size ≤ w.heap.size := hC.size
  have HO : Hid ((w.alloc (.cells #[] 5)).ownsRow w.heap.size 5 1 (.slice (some ⟨w.heap.size, 0, none⟩) 0 0) 0 []) := World.ownsRow_made w #[] 0 (Nat.le_refl _) (by decide) rfl
  have HG : Hid (w.grownBy (w.alloc (.cells #[] 5)) (some b)) := World.grownBy_alloc w _ _
  clear hC hcr
  go_enter Tryz.func96, Tryz.ntmps96
  go_wp2_with fail
  refine (cBelow most w0 a len cap b _ hlen HR.out HC1.out hm0 hm1).mono ?_
  rintro e w2 ⟨x0, rfl, hx0, hC2, hG2⟩
  have O2 := own_kept HC1.out HO.out hG2
  have HC2 : Hid (Cur w0 a len cap b w2) := hC2
  have HG2 : Hid (w.grownBy w2 (some b)) := gtrans HG.out hG2
  have HO2 : Hid (w2.ownsRow w.heap.size 5 1 (.slice (some ⟨w.heap.size, 0, none⟩) 0 0) 0 []) := O2
  clear O2 hC2 hG2 HC1 HG HO
  go_wp2_with fail
  go_loopw [7, 8] (fun v n wr => ∃ (m : Nat) (acc : List UInt8), n = .int .i64 m ∧ acc.length + m < most ∧ wr.ownsRow w.heap.size 5 1 v acc.length (Lib.byteCells acc) ∧ Cur w0 a len cap b wr ∧ w.grownBy wr (some b)) (fun _ n _ => (intOf n).toNat)
  case atStart => exact ⟨x0, [], rfl, by simpa using hx0, HO2.out, HC2.out, HG2.out⟩
  case round =>
    obtain ⟨m, acc, rfl, hm, hown, hCr, hGr⟩ := hrel
    by_cases hmp : 0 < m
    · have hmb : decide ((0 : Int) < (m : Int)) = true := by simp; omega
      have HOr : Hid (wr.ownsRow w.heap.size 5 1 u7 acc.length (Lib.byteCells acc)) := hown
      have HCr : Hid (Cur w0 a len cap b wr) := hCr
      have HGr : Hid (w.grownBy wr (some b)) := hGr
      clear hown hCr hGr
      go_wp2_with fail
      refine (cBelow signs.size w0 a len cap b _ hlen HR.out HCr.out hg0 hg1).mono ?_
      rintro e w3 ⟨y, rfl, hy, hC3, hG3⟩
      have O3 := own_kept HCr.out HOr.out hG3
      have hs3 : w.heap.size ≤ w3.heap.size := Nat.le_trans HGr.out.size hG3.size
      go_wp2_with (at_builtin; refine wpList_append_own _ rfl _ _ 22 rfl w.heap.size 5 i0 (.int .u8 0) 1 1 Tryz.underlying22 hi hz0 hz1 hz2 rfl (by decide) _ _ _ rfl (O3.alloc _) ⟨w3.heap.size, 0, none⟩ 1 1 [.int .u8 (signs[y].toNat : Int)] rfl rfl (one_cell5 _ _) (ints_one [(signs[y].toNat : Int)]) (by unfold maxLen; omega) (by omega) (by simp; omega) ?_)
      intro v' w4 hown' hgrow _
      have R := own_snocT hown'
      have C4 := (hC3.alloc (.cells #[.int .u8 (signs[y].toNat : Int)] 5)).grown hgrow (fun e => (hC3.ne O3) e.symm) (own_ge (w1 := w4) O3 hw0)
      have G4 := g_row (g_row (gtrans HGr.out hG3) (World.grownBy_alloc w3 (.cells #[.int .u8 (signs[y].toNat : Int)] 5) none) (by simp)) hgrow (own_ge (w1 := w4) O3 (Nat.le_refl _))
      clear hown' hgrow O3 hC3 hG3
      go_wp2
      go_roundw
      case rel => exact ⟨m - 1, acc ++ [signs[y]], by go_num, by simp; omega, R, C4, G4⟩
      case measure => simp [intOf]; omega
    · have hmb : decide ((0 : Int) < (m : Int)) = false := by simp; omega
      have hr := run_str_own (P := Tryz.prog) (src := 22) (dst := 9) Tryz.underlying22 Tryz.underlying5 Tryz.underlying9 hown
      clear hown
      go_wp2
      go_ret
      exact ⟨_, rfl, by show acc.toArray.size < most; simp; omega, hCr, hGr⟩

end Go.Proofs.YteninofjeidljaaGreat

namespace Go.Proofs.YteninofjeidljaaGreat

open Go.RowKit

set_option linter.unusedVariables false

set_option linter.unusedSimpArgs false

/-- What the draw of attrs knows: the row so far, the cursor. -/
structure DSt (w0 : World) (a : Option Addr) (len cap b : Nat) (w wr : World) (v : Value) (l : List At) : Prop where
  own : wr.ownsRow w.heap.size 114 2 v l.length (atC l)
  sz : AtSz 20 l
  cur : Cur w0 a len cap b wr
  gr : w.grownBy wr (some b)
  lt : b < w.heap.size
  le : w0.heap.size ≤ w.heap.size

section

variable {w0 : World} {a : Option Addr} {len cap b : Nat} {w wr : World} {v : Value} {l : List At}

theorem DSt.ne (h : DSt w0 a len cap b w wr v l) : v.ownBlock ≠ some b := fun e => by
  have := (h.own.lt b e).1
  have := h.lt
  omega

theorem DSt.draw {w1 : World} (h : DSt w0 a len cap b w wr v l) (hC : Cur w0 a len cap b w1) (g : wr.grownBy w1 (some b)) : DSt w0 a len cap b w w1 v l :=
  ⟨h.own.kept g (Or.inr h.ne), h.sz, hC, gtrans h.gr g, h.lt, h.le⟩

theorem DSt.alloc (h : DSt w0 a len cap b w wr v l) (o : Obj) : DSt w0 a len cap b w (wr.alloc o) v l :=
  h.draw (h.cur.alloc o) (World.grownBy_alloc wr o _)

theorem DSt.drewN (h : DSt w0 a len cap b w wr v l) (n : Nat) : DSt w0 a len cap b w (wr.drewN n) v l :=
  ⟨h.own, h.sz, h.cur.drewN n, g_drewN h.gr n, h.lt, h.le⟩

theorem g_later {w1 : World} {g : Nat} (h : w.grownBy wr (some b)) (k : wr.grownBy w1 (some g)) (hg : w.heap.size ≤ g) : w.grownBy w1 (some b) :=
  ⟨k.os.trans h.os, k.tape.trans h.tape, k.output.trans h.output, Nat.le_trans h.size k.size, fun i hi hr => (k.block i (Nat.lt_of_lt_of_le hi h.size) (fun e => by cases e; omega)).trans (h.block i hi hr)⟩

theorem DSt.set (h : DSt w0 a len cap b w wr v l) {g : Nat} (hg : w.heap.size ≤ g) (hne : ¬ v.ownBlock = some g) (j : Nat) (x : Value) : DSt w0 a len cap b w (wr.setCell ⟨g, j, none⟩ x) v l :=
  ⟨h.own.kept (Lib.grownBy_setCell wr g j x) (Or.inr hne), h.sz, h.cur.grown (Lib.grownBy_setCell wr g j x) (fun e => by cases e; have := h.lt; omega) (fun k e => by cases e; have := h.le; omega), g_later h.gr (Lib.grownBy_setCell wr g j x) hg, h.lt, h.le⟩

theorem DSt.join {w1 : World} {v' : Value} {m : List At} (h : DSt w0 a len cap b w wr v l) (hm : AtSz 20 m) (ho : w1.ownsRow w.heap.size 114 2 v' (l.length + m.length) (atC l ++ atC m)) (g : wr.grownBy w1 v.ownBlock) : DSt w0 a len cap b w w1 v' (l ++ m) := by
  have e : atC (l ++ m) = atC l ++ atC m := by unfold atC; rw [List.flatMap_append]
  refine ⟨by rw [List.length_append, e]; exact ho, fun x hx => ?_, h.cur.grown g (fun x => h.ne x.symm) (fun k x => by have := (h.own.lt k x).1; have := h.le; omega), ?_, h.lt, h.le⟩
  · rcases List.mem_append.1 hx with h' | h'
    · exact h.sz x h'
    · exact hm x h'
  · exact ⟨g.os.trans h.gr.os, g.tape.trans h.gr.tape, g.output.trans h.gr.output, Nat.le_trans h.gr.size g.size, fun i hi hr => (g.block i (Nat.lt_of_lt_of_le hi h.gr.size) (fun x => by have := (h.own.lt i x.symm).1; omega)).trans (h.gr.block i hi hr)⟩

theorem DSt.row (h : DSt w0 a len cap b w wr v l) : ∃ a' c', v = .slice a' l.length c' ∧ OwnAts wr w.heap.size a' l := by
  rcases h.own.2 with ⟨rfl, h0⟩ | ⟨g, cp, cur, rfl, hg, hh, hn, hc, hs, ht⟩
  · exact ⟨none, 0, by rw [h0], fun hl => by omega⟩
  · refine ⟨_, _, rfl, fun _ => ⟨g, 0, cur, rfl, hg, hh, fun j hj => ?_⟩⟩
    obtain ⟨g1, g2⟩ := atC_get l j hj
    rw [← ht, List.getElem?_take] at g1 g2
    refine ⟨?_, ?_⟩
    · rw [Nat.zero_add, ← Array.getElem?_toList]
      split at g1
      · exact g1
      · cases g1
    · rw [Nat.zero_add, ← Array.getElem?_toList]
      split at g2
      · exact g2
      · cases g2

end

def tabA : Obj := .cells #[.string ⟨#[97]⟩, .string ⟨#[120]⟩, .string ⟨#[112, 58, 97]⟩, .string ⟨#[113, 58, 97]⟩, .string ⟨#[112, 58, 120]⟩, .string ⟨#[110, 115]⟩, .string ⟨#[110, 115, 58, 112]⟩, .string ⟨#[73, 100]⟩] 9 (0, 0)

theorem tabA_at (w : World) (B x : Nat) (hx : x < 8) (h : w.heap[B]? = some tabA) : ∃ t : ByteArray, w.cell? ⟨B, x, none⟩ = some (.string t) ∧ t.size ≤ 7 := by
  rw [Lib.cell_of_heap h]
  rcases (show x = 0 ∨ x = 1 ∨ x = 2 ∨ x = 3 ∨ x = 4 ∨ x = 5 ∨ x = 6 ∨ x = 7 from by omega) with rfl | rfl | rfl | rfl | rfl | rfl | rfl | rfl
  all_goals exact ⟨_, rfl, by decide⟩

end Go.Proofs.YteninofjeidljaaGreat

namespace Go.Proofs.YteninofjeidljaaGreat

open Go.RowKit

set_option linter.unusedVariables false

set_option linter.unusedSimpArgs false

theorem tab3_at (w : World) (B x : Nat) (hx : x < 3) (h : w.heap[B]? = some (.cells #[.string ⟨#[117]⟩, .string ⟨#[119]⟩, .string ⟨#[122]⟩] 9 (0, 0))) : ∃ t : ByteArray, w.cell? ⟨B, x, none⟩ = some (.string t) ∧ t.size ≤ 1 := by
  rw [Lib.cell_of_heap h]
  rcases (show x = 0 ∨ x = 1 ∨ x = 2 from by omega) with rfl | rfl | rfl
  all_goals exact ⟨_, rfl, by decide⟩

theorem four_cells (w : World) (x y z t : Value) (T : TypeId) : ∀ j u, [x, y, z, t][j]? = some u → (w.alloc (.cells #[x, y, z, t] T)).cell? ((⟨w.heap.size, 0, none⟩ : Addr).add j) = some u := by
  intro j u hj
  match j, hj with
  | 0, hj => simp at hj; subst hj; simp [Addr.add]
  | 1, hj => simp at hj; subst hj; simp [Addr.add]
  | 2, hj => simp at hj; subst hj; simp [Addr.add]
  | 3, hj => simp at hj; subst hj; simp [Addr.add]

theorem box_set1 {w1 : World} {b : Nat} {x y v : Value} {T : TypeId} (h : w1.heap[b]? = some (.cells #[x, y] T (0, 0))) : (w1.setCell ⟨b, 1, none⟩ v).heap[b]? = some (.cells #[x, v] T (0, 0)) :=
  heap_setCell_same w1 b 1 _ _ v h

set_option maxRecDepth 8000 in
set_option maxHeartbeats 8000000 in
theorem cDrawAttrs (r : Bool) (w0 : World) (a : Option Addr) (len cap b : Nat) (w : World) (hlen : len ≤ 4096) (hcr : CodeRow w0 a len) (hC : Cur w0 a len cap b w) :
    Calls Tryz.prog 136 #[.pointer (some ⟨b, 0, none⟩), .bool r] w fun e w' => ∃ a' c' l, e = .returned (.slice a' (l : List At).length c') ∧ l.length ≤ 4 ∧ DSt w0 a len cap b w w' (.slice a' l.length c') l := by
  have HR := hid hcr
  have HC := hid hC
  clear hcr hC
  have hbl : b < w.heap.size := by obtain ⟨i, h, _, _, hh⟩ := HC.out.2.2; exact lt_of_heap hh
  have HDZ := hid (show DSt w0 a len cap b w (w.alloc (.cells #[] 114)) (.slice (some ⟨w.heap.size, 0, none⟩) 0 0) [] from ⟨World.ownsRow_made w #[] 0 (Nat.le_refl _) (Nat.zero_le _) rfl, fun x hx => absurd hx List.not_mem_nil, HC.out.alloc _, World.grownBy_alloc w _ _, hbl, HC.out.2.1.size⟩)
  clear hbl
  go_enter Tryz.func136, Tryz.ntmps136
  go_upto_region 2 with fail
  go_cut [16] from 11 to 72 (fun x wv => ∃ B : Bool, x = .bool B ∧ Hid (DSt w0 a len cap b w wv (.slice (some ⟨w.heap.size, 0, none⟩) 0 0) []))
  case first =>
    cases r
    · go_wp2_with fail
      go_meet
      exact ⟨false, rfl, HDZ.out⟩
    · go_wp2_with fail
      refine (cOnce 6 w0 a len cap b _ hlen HR.out HDZ.out.cur (by omega) (by omega)).mono ?_
      rintro e w2 ⟨x, rfl, hC2, hG2⟩
      have HD2 := hid (HDZ.out.draw hC2 hG2)
      clear hC2 hG2
      cases x
      · go_wp2_with fail
        go_meet
        exact ⟨true, rfl, HD2.out⟩
      · go_wp2_with fail
        go_meet
        exact ⟨false, rfl, HD2.out⟩
  obtain ⟨BR, rfl, HDY⟩ := hcut
  clear HDZ
  go_upto_if 16 with fail
  go_cut [5] from 17 to 72 (fun x wv => ∃ l : List At, l.length ≤ 2 ∧ Hid (DSt w0 a len cap b w wv x l))
  case first =>
    cases BR
    · go_wp2_with fail
      go_meet
      exact ⟨[], by simp, HDY.out⟩
    · obtain ⟨i0, hi, hz0, hz1, hz2⟩ := info_parts infoAtW
      go_wp2_with fail
      refine (cText ⟨#[49, 47]⟩ 2 w0 a len cap b _ (by omega) (by omega) (by decide) (by decide) hlen HR.out HDY.out.cur).mono ?_
      rintro e w3 ⟨t5, rfl, ht5, hC3, hG3⟩
      have HD3 := hid (HDY.out.draw hC3 hG3)
      obtain ⟨S5, hS5⟩ : ∃ S, (⟨#[117]⟩ : ByteArray) ++ t5 = S := ⟨_, rfl⟩
      have hz5 : S5.size = 1 + t5.size := by rw [← hS5, ByteArray.size_append]; rfl
      have hov : ¬ 9223372036854775807 < (⟨#[117]⟩ : ByteArray).size + t5.size := by rw [show (⟨#[117]⟩ : ByteArray).size = 1 from rfl]; omega
      have hz6 : S5.size ≤ 5 := by omega
      have HOA := hid (HD3.out.own.alloc (.cells #[.string ⟨#[110, 115, 58, 112]⟩, .string S5, .string ⟨#[110, 115, 58, 113]⟩, .string ⟨#[119]⟩] 114))
      have HDA := hid (HD3.out.alloc (.cells #[.string ⟨#[110, 115, 58, 112]⟩, .string S5, .string ⟨#[110, 115, 58, 113]⟩, .string ⟨#[119]⟩] 114))
      have HNE := hid (four_cells w3 (.string ⟨#[110, 115, 58, 112]⟩) (.string S5) (.string ⟨#[110, 115, 58, 113]⟩) (.string ⟨#[119]⟩) 114)
      have HON := hid (show ∀ u ∈ [Value.string ⟨#[110, 115, 58, 112]⟩, .string S5, .string ⟨#[110, 115, 58, 113]⟩, .string ⟨#[119]⟩], u.oneCell' = true by
        intro u hu
        simp at hu
        rcases hu with rfl | rfl | rfl | rfl <;> rfl)
      have hwb := HD3.out.gr.size
      clear hC3 hG3 hz5
      go_wp2_with (at_builtin; refine wpList_append_own _ rfl _ _ 40 rfl w.heap.size 114 i0 _ 2 32 Tryz.underlying40 hi hz0 hz1 hz2 rfl (by decide) _ _ _ rfl HOA.out ⟨w3.heap.size, 0, none⟩ 2 2 [.string ⟨#[110, 115, 58, 112]⟩, .string S5, .string ⟨#[110, 115, 58, 113]⟩, .string ⟨#[119]⟩] rfl rfl ?c1 ?c2 ?c3 ?c4 ?c5 ?_)
      case c1 => exact HNE.out
      case c2 => exact HON.out
      case c3 => unfold maxLen; simp
      case c4 => simp
      case c5 => simp; omega
      intro v6 w6 hown6 hgrow6 _
      have HD6 := hid (HDA.out.join (m := [⟨⟨#[110, 115, 58, 112]⟩, S5⟩, ⟨⟨#[110, 115, 58, 113]⟩, ⟨#[119]⟩⟩]) (fun x hx => by
        simp at hx
        rcases hx with rfl | rfl
        · exact ⟨by show (⟨#[110, 115, 58, 112]⟩ : ByteArray).size ≤ 20; decide, by show S5.size ≤ 20; omega⟩
        · exact ⟨by decide, by decide⟩) hown6 hgrow6)
      clear hown6 hgrow6
      go_wp2_with fail
      go_meet
      exact ⟨[⟨⟨#[110, 115, 58, 112]⟩, S5⟩, ⟨⟨#[110, 115, 58, 113]⟩, ⟨#[119]⟩⟩], by simp, HD6.out⟩
  obtain ⟨lz, hlz, HDX⟩ := hcut
  go_wp2_with fail
  refine (cBelow 3 w0 a len cap b _ hlen HR.out HDX.out.cur (by omega) (by omega)).mono ?_
  rintro e w2 ⟨y, rfl, hy, hC2, hG2⟩
  have HD0 := hid (HDX.out.draw hC2 hG2)
  clear hC2 hG2 HDX HDY
  go_wp2_with fail
  go_loopw [5, 6] (fun v x wr => ∃ (k : Nat) (l : List At), x = .int .i64 (k : Int) ∧ k ≤ 2 ∧ l.length + k ≤ 4 ∧ Hid (DSt w0 a len cap b w wr v l)) (fun _ x _ => (intOf x).toNat)
  case atStart => exact ⟨y, lz, rfl, by omega, by omega, HD0.out⟩
  case round =>
    clear HD0
    obtain ⟨k, l, rfl, hk, hlk, HD⟩ := hrel
    by_cases h0 : k = 0
    · subst h0
      obtain ⟨a5, c5, hv5, _⟩ := HD.out.row
      subst hv5
      go_wp2_with fail
      go_ret
      exact ⟨a5, c5, l, rfl, by omega, HD.out⟩
    · have hkp : (0 : Int) < (k : Int) := by omega
      obtain ⟨v, hv⟩ : ∃ v, v = v := ⟨u5, rfl⟩
      clear hv v
      generalize u5 = v at *
      go_upto_region 7 with fail
      go_cut [7] from 27 to 72 (fun x wv => ∃ (bx : Nat) (tA tC : ByteArray), x = .pointer (some ⟨bx, 0, none⟩) ∧ Hid (wv.heap[bx]? = some (.cells #[.string tA, .string tC] 114 (0, 0)) ∧ (w.heap.size ≤ bx ∧ ¬ v.ownBlock = some bx) ∧ tA.size ≤ 7 ∧ tC.size ≤ 4 ∧ DSt w0 a len cap b w wv v l))
      case first =>
        refine wp_region_held_drew (S := fun _ => True) (by kernel_rfl) trivial (fun _ => ?_)
        replace HD := hid (show DSt w0 a len cap b w wr.drew v l from HD.out.drewN 1)
        generalize wr.drew = W at *
        refine wpAnyH_take (i := 1) (v := ?_) rfl (by kernel_rfl) (by kernel_rfl) (by kernel_rfl) (fun _ _ _ h => h) (Or.inl ⟨by rfl, ?_⟩) trivial ?_
        rotate_left
        · intro w hSw
          go_simp
          try (with_reducible rfl)
        try simp only [Act.put, List.setIfInBounds_toArray, List.set_cons_zero, List.set_cons_succ]
        refine wpAnyH_take (i := 5) (v := ?_) rfl (by kernel_rfl) (by kernel_rfl) (by kernel_rfl) (fun _ _ _ h => h) (Or.inl ⟨by rfl, ?_⟩) trivial ?_
        rotate_left
        · intro w hSw
          go_simp
          try (with_reducible rfl)
        try simp only [Act.put, List.setIfInBounds_toArray, List.set_cons_zero, List.set_cons_succ]
        refine wpAnyH_ready (rs := [0, 2, 8]) (by kernel_rfl) (by simp) (AllReadyH.cons rfl (fun K hK => ?_) (AllReadyH.cons rfl (fun K hK => ?_) (AllReadyH.cons rfl (fun K hK => ?_) AllReadyH.nil)))
        · have HTB := hid (show ¬ W.heap.size = b by have := HD.out.gr.size; have := HD.out.lt; omega)
          go_simp
          refine hK.out _ _ trivial (fun _ => ?_)
          clear hK K
          try simp only [Act.put, List.setIfInBounds_toArray, List.set_cons_zero, List.set_cons_succ]
          have HT := hid (heap_alloc_new W (.cells #[.string ⟨#[97]⟩, .string ⟨#[120]⟩, .string ⟨#[112, 58, 97]⟩, .string ⟨#[113, 58, 97]⟩, .string ⟨#[112, 58, 120]⟩, .string ⟨#[110, 115]⟩, .string ⟨#[110, 115, 58, 112]⟩, .string ⟨#[73, 100]⟩] 9))
          replace HD := hid (HD.out.alloc (.cells #[.string ⟨#[97]⟩, .string ⟨#[120]⟩, .string ⟨#[112, 58, 97]⟩, .string ⟨#[113, 58, 97]⟩, .string ⟨#[112, 58, 120]⟩, .string ⟨#[110, 115]⟩, .string ⟨#[110, 115, 58, 112]⟩, .string ⟨#[73, 100]⟩] 9))
          generalize W.heap.size = tb at *
          generalize W.alloc (.cells #[.string ⟨#[97]⟩, .string ⟨#[120]⟩, .string ⟨#[112, 58, 97]⟩, .string ⟨#[113, 58, 97]⟩, .string ⟨#[112, 58, 120]⟩, .string ⟨#[110, 115]⟩, .string ⟨#[110, 115, 58, 112]⟩, .string ⟨#[73, 100]⟩] 9) = W at *
          refine wpAnyH_ready (rs := [2, 8]) (by kernel_rfl) (by simp) (AllReadyH.cons rfl (fun K hK => ?_) (AllReadyH.cons rfl (fun K hK => ?_) AllReadyH.nil))
          · go_simp
            refine (cBelow 8 w0 a len cap b _ hlen HR.out HD.out.cur (by omega) (by omega)).mono ?_
            rintro e W2 ⟨x, rfl, hx, hC, hG⟩
            replace HT := hid ((hG.block tb (lt_of_heap HT.out) (fun e => HTB.out (Option.some.inj e))).trans HT.out)
            replace HD := hid (HD.out.draw hC hG)
            have hx8 : (x : Int) < 8 := by omega
            clear hC hG
            go_wp2_with fail
            refine hK.out _ _ trivial (fun _ => ?_)
            clear hK K
            try simp only [Act.put, List.setIfInBounds_toArray, List.set_cons_zero, List.set_cons_succ]
            generalize W2 = W at *
            refine wpAnyH_take (i := 3) (v := ?_) rfl (by kernel_rfl) (by kernel_rfl) (by kernel_rfl) (fun _ _ _ h => h) (Or.inl ⟨by rfl, ?_⟩) trivial ?_
            rotate_left
            · intro w hSw
              go_simp
              try (with_reducible rfl)
            try simp only [Act.put, List.setIfInBounds_toArray, List.set_cons_zero, List.set_cons_succ]
            refine wpAnyH_ready (rs := [4, 6, 8]) (by kernel_rfl) (by simp) (AllReadyH.cons rfl (fun K hK => ?_) (AllReadyH.cons rfl (fun K hK => ?_) (AllReadyH.cons rfl (fun K hK => ?_) AllReadyH.nil)))
            · obtain ⟨tA, hcA, htA⟩ := tabA_at _ tb x hx HT.out
              go_simp
              refine hK.out _ _ trivial (fun _ => ?_)
              clear hK K
              try simp only [Act.put, List.setIfInBounds_toArray, List.set_cons_zero, List.set_cons_succ]
              clear hcA
              refine wpAnyH_ready (rs := [6, 8]) (by kernel_rfl) (by simp) (AllReadyH.cons rfl (fun K hK => ?_) (AllReadyH.cons rfl (fun K hK => ?_) AllReadyH.nil))
              · go_simp
                refine (cText ⟨#[97, 98, 60, 38, 34, 62, 32, 49]⟩ 4 w0 a len cap b _ (by omega) (by omega) (by decide) (by decide) hlen HR.out HD.out.cur).mono ?_
                rintro e W3 ⟨tC, rfl, htC, hC, hG⟩
                replace HT := hid ((hG.block tb (lt_of_heap HT.out) (fun e => HTB.out (Option.some.inj e))).trans HT.out)
                replace HD := hid (HD.out.draw hC hG)
                clear hC hG
                go_wp2_with fail
                refine hK.out _ _ trivial (fun _ => ?_)
                clear hK K
                try simp only [Act.put, List.setIfInBounds_toArray, List.set_cons_zero, List.set_cons_succ]
                generalize W3 = W at *
                refine wpAnyH_take (i := 7) (v := ?_) rfl (by kernel_rfl) (by kernel_rfl) (by kernel_rfl) (fun _ _ _ h => h) (Or.inl ⟨by rfl, ?_⟩) trivial ?_
                rotate_left
                · intro w hSw
                  go_simp
                  try (with_reducible rfl)
                try simp only [Act.put, List.setIfInBounds_toArray, List.set_cons_zero, List.set_cons_succ]
                refine wpAnyH_ready (rs := [8]) (by kernel_rfl) (by simp) (AllReadyH.cons rfl (fun K hK => ?_) AllReadyH.nil)
                · have HXB := hid (show w.heap.size ≤ W.heap.size ∧ ¬ v.ownBlock = some W.heap.size from ⟨HD.out.gr.size, fun e => by have := (HD.out.own.lt _ e).2; omega⟩)
                  go_simp
                  refine hK.out _ _ trivial (fun _ => ?_)
                  clear hK K
                  try simp only [Act.put, List.setIfInBounds_toArray, List.set_cons_zero, List.set_cons_succ]
                  have HX := hid (heap_alloc_new W (.cells #[.string ⟨#[]⟩, .string ⟨#[]⟩] 114))
                  replace HD := hid (HD.out.alloc (.cells #[.string ⟨#[]⟩, .string ⟨#[]⟩] 114))
                  replace HT := hid (blk_alloc HT.out (.cells #[.string ⟨#[]⟩, .string ⟨#[]⟩] 114))
                  generalize W.heap.size = bx at *
                  generalize W.alloc (.cells #[.string ⟨#[]⟩, .string ⟨#[]⟩] 114) = W at *
                  refine wpAnyH_ready (rs := [9]) (by kernel_rfl) (by simp) (AllReadyH.cons rfl (fun K hK => ?_) AllReadyH.nil)
                  · obtain ⟨⟨e0, e1⟩, f0, f1⟩ := box2e HX.out
                    go_simp
                    refine hK.out _ _ trivial (fun _ => ?_)
                    clear hK K
                    try simp only [Act.put, List.setIfInBounds_toArray, List.set_cons_zero, List.set_cons_succ]
                    refine wpAnyH_done (by kernel_rfl) ?_ _
                    go_wp2_with fail
                    go_meet
                    exact ⟨bx, tA, tC, rfl, ⟨box_set2 HX.out, HXB.out, htA, Nat.le_of_lt htC, (HD.out.set HXB.out.1 HXB.out.2 0 _).set HXB.out.1 HXB.out.2 1 _⟩⟩
              · have HXB := hid (show w.heap.size ≤ W.heap.size ∧ ¬ v.ownBlock = some W.heap.size from ⟨HD.out.gr.size, fun e => by have := (HD.out.own.lt _ e).2; omega⟩)
                go_simp
                refine hK.out _ _ trivial (fun _ => ?_)
                clear hK K
                try simp only [Act.put, List.setIfInBounds_toArray, List.set_cons_zero, List.set_cons_succ]
                have HX := hid (heap_alloc_new W (.cells #[.string ⟨#[]⟩, .string ⟨#[]⟩] 114))
                replace HD := hid (HD.out.alloc (.cells #[.string ⟨#[]⟩, .string ⟨#[]⟩] 114))
                replace HT := hid (blk_alloc HT.out (.cells #[.string ⟨#[]⟩, .string ⟨#[]⟩] 114))
                generalize W.heap.size = bx at *
                generalize W.alloc (.cells #[.string ⟨#[]⟩, .string ⟨#[]⟩] 114) = W at *
                refine wpAnyH_ready (rs := [6]) (by kernel_rfl) (by simp) (AllReadyH.cons rfl (fun K hK => ?_) AllReadyH.nil)
                · go_simp
                  refine (cText ⟨#[97, 98, 60, 38, 34, 62, 32, 49]⟩ 4 w0 a len cap b _ (by omega) (by omega) (by decide) (by decide) hlen HR.out HD.out.cur).mono ?_
                  rintro e W3 ⟨tC, rfl, htC, hC, hG⟩
                  replace HT := hid ((hG.block tb (lt_of_heap HT.out) (fun e => HTB.out (Option.some.inj e))).trans HT.out)
                  replace HX := hid ((hG.block bx (lt_of_heap HX.out) (fun e => by have := HXB.out.1; have := HD.out.lt; have := Option.some.inj e; omega)).trans HX.out)
                  replace HD := hid (HD.out.draw hC hG)
                  clear hC hG
                  go_wp2_with fail
                  refine hK.out _ _ trivial (fun _ => ?_)
                  clear hK K
                  try simp only [Act.put, List.setIfInBounds_toArray, List.set_cons_zero, List.set_cons_succ]
                  generalize W3 = W at *
                  refine wpAnyH_take (i := 7) (v := ?_) rfl (by kernel_rfl) (by kernel_rfl) (by kernel_rfl) (fun _ _ _ h => h) (Or.inl ⟨by rfl, ?_⟩) trivial ?_
                  rotate_left
                  · intro w hSw
                    go_simp
                    try (with_reducible rfl)
                  try simp only [Act.put, List.setIfInBounds_toArray, List.set_cons_zero, List.set_cons_succ]
                  refine wpAnyH_ready (rs := [9]) (by kernel_rfl) (by simp) (AllReadyH.cons rfl (fun K hK => ?_) AllReadyH.nil)
                  · obtain ⟨⟨e0, e1⟩, f0, f1⟩ := box2e HX.out
                    go_simp
                    refine hK.out _ _ trivial (fun _ => ?_)
                    clear hK K
                    try simp only [Act.put, List.setIfInBounds_toArray, List.set_cons_zero, List.set_cons_succ]
                    refine wpAnyH_done (by kernel_rfl) ?_ _
                    go_wp2_with fail
                    go_meet
                    exact ⟨bx, tA, tC, rfl, ⟨box_set2 HX.out, HXB.out, htA, Nat.le_of_lt htC, (HD.out.set HXB.out.1 HXB.out.2 0 _).set HXB.out.1 HXB.out.2 1 _⟩⟩
            · go_simp
              refine (cText ⟨#[97, 98, 60, 38, 34, 62, 32, 49]⟩ 4 w0 a len cap b _ (by omega) (by omega) (by decide) (by decide) hlen HR.out HD.out.cur).mono ?_
              rintro e W3 ⟨tC, rfl, htC, hC, hG⟩
              replace HT := hid ((hG.block tb (lt_of_heap HT.out) (fun e => HTB.out (Option.some.inj e))).trans HT.out)
              replace HD := hid (HD.out.draw hC hG)
              clear hC hG
              go_wp2_with fail
              refine hK.out _ _ trivial (fun _ => ?_)
              clear hK K
              try simp only [Act.put, List.setIfInBounds_toArray, List.set_cons_zero, List.set_cons_succ]
              generalize W3 = W at *
              refine wpAnyH_ready (rs := [4, 8]) (by kernel_rfl) (by simp) (AllReadyH.cons rfl (fun K hK => ?_) (AllReadyH.cons rfl (fun K hK => ?_) AllReadyH.nil))
              · obtain ⟨tA, hcA, htA⟩ := tabA_at _ tb x hx HT.out
                go_simp
                refine hK.out _ _ trivial (fun _ => ?_)
                clear hK K
                try simp only [Act.put, List.setIfInBounds_toArray, List.set_cons_zero, List.set_cons_succ]
                clear hcA
                refine wpAnyH_take (i := 7) (v := ?_) rfl (by kernel_rfl) (by kernel_rfl) (by kernel_rfl) (fun _ _ _ h => h) (Or.inl ⟨by rfl, ?_⟩) trivial ?_
                rotate_left
                · intro w hSw
                  go_simp
                  try (with_reducible rfl)
                try simp only [Act.put, List.setIfInBounds_toArray, List.set_cons_zero, List.set_cons_succ]
                refine wpAnyH_ready (rs := [8]) (by kernel_rfl) (by simp) (AllReadyH.cons rfl (fun K hK => ?_) AllReadyH.nil)
                · have HXB := hid (show w.heap.size ≤ W.heap.size ∧ ¬ v.ownBlock = some W.heap.size from ⟨HD.out.gr.size, fun e => by have := (HD.out.own.lt _ e).2; omega⟩)
                  go_simp
                  refine hK.out _ _ trivial (fun _ => ?_)
                  clear hK K
                  try simp only [Act.put, List.setIfInBounds_toArray, List.set_cons_zero, List.set_cons_succ]
                  have HX := hid (heap_alloc_new W (.cells #[.string ⟨#[]⟩, .string ⟨#[]⟩] 114))
                  replace HD := hid (HD.out.alloc (.cells #[.string ⟨#[]⟩, .string ⟨#[]⟩] 114))
                  replace HT := hid (blk_alloc HT.out (.cells #[.string ⟨#[]⟩, .string ⟨#[]⟩] 114))
                  generalize W.heap.size = bx at *
                  generalize W.alloc (.cells #[.string ⟨#[]⟩, .string ⟨#[]⟩] 114) = W at *
                  refine wpAnyH_ready (rs := [9]) (by kernel_rfl) (by simp) (AllReadyH.cons rfl (fun K hK => ?_) AllReadyH.nil)
                  · obtain ⟨⟨e0, e1⟩, f0, f1⟩ := box2e HX.out
                    go_simp
                    refine hK.out _ _ trivial (fun _ => ?_)
                    clear hK K
                    try simp only [Act.put, List.setIfInBounds_toArray, List.set_cons_zero, List.set_cons_succ]
                    refine wpAnyH_done (by kernel_rfl) ?_ _
                    go_wp2_with fail
                    go_meet
                    exact ⟨bx, tA, tC, rfl, ⟨box_set2 HX.out, HXB.out, htA, Nat.le_of_lt htC, (HD.out.set HXB.out.1 HXB.out.2 0 _).set HXB.out.1 HXB.out.2 1 _⟩⟩
              · have HXB := hid (show w.heap.size ≤ W.heap.size ∧ ¬ v.ownBlock = some W.heap.size from ⟨HD.out.gr.size, fun e => by have := (HD.out.own.lt _ e).2; omega⟩)
                go_simp
                refine hK.out _ _ trivial (fun _ => ?_)
                clear hK K
                try simp only [Act.put, List.setIfInBounds_toArray, List.set_cons_zero, List.set_cons_succ]
                have HX := hid (heap_alloc_new W (.cells #[.string ⟨#[]⟩, .string ⟨#[]⟩] 114))
                replace HD := hid (HD.out.alloc (.cells #[.string ⟨#[]⟩, .string ⟨#[]⟩] 114))
                replace HT := hid (blk_alloc HT.out (.cells #[.string ⟨#[]⟩, .string ⟨#[]⟩] 114))
                generalize W.heap.size = bx at *
                generalize W.alloc (.cells #[.string ⟨#[]⟩, .string ⟨#[]⟩] 114) = W at *
                refine wpAnyH_ready (rs := [4]) (by kernel_rfl) (by simp) (AllReadyH.cons rfl (fun K hK => ?_) AllReadyH.nil)
                · obtain ⟨tA, hcA, htA⟩ := tabA_at _ tb x hx HT.out
                  go_simp
                  refine hK.out _ _ trivial (fun _ => ?_)
                  clear hK K
                  try simp only [Act.put, List.setIfInBounds_toArray, List.set_cons_zero, List.set_cons_succ]
                  clear hcA
                  refine wpAnyH_take (i := 7) (v := ?_) rfl (by kernel_rfl) (by kernel_rfl) (by kernel_rfl) (fun _ _ _ h => h) (Or.inl ⟨by rfl, ?_⟩) trivial ?_
                  rotate_left
                  · intro w hSw
                    go_simp
                    try (with_reducible rfl)
                  try simp only [Act.put, List.setIfInBounds_toArray, List.set_cons_zero, List.set_cons_succ]
                  refine wpAnyH_ready (rs := [9]) (by kernel_rfl) (by simp) (AllReadyH.cons rfl (fun K hK => ?_) AllReadyH.nil)
                  · obtain ⟨⟨e0, e1⟩, f0, f1⟩ := box2e HX.out
                    go_simp
                    refine hK.out _ _ trivial (fun _ => ?_)
                    clear hK K
                    try simp only [Act.put, List.setIfInBounds_toArray, List.set_cons_zero, List.set_cons_succ]
                    refine wpAnyH_done (by kernel_rfl) ?_ _
                    go_wp2_with fail
                    go_meet
                    exact ⟨bx, tA, tC, rfl, ⟨box_set2 HX.out, HXB.out, htA, Nat.le_of_lt htC, (HD.out.set HXB.out.1 HXB.out.2 0 _).set HXB.out.1 HXB.out.2 1 _⟩⟩
            · have HXB := hid (show w.heap.size ≤ W.heap.size ∧ ¬ v.ownBlock = some W.heap.size from ⟨HD.out.gr.size, fun e => by have := (HD.out.own.lt _ e).2; omega⟩)
              go_simp
              refine hK.out _ _ trivial (fun _ => ?_)
              clear hK K
              try simp only [Act.put, List.setIfInBounds_toArray, List.set_cons_zero, List.set_cons_succ]
              have HX := hid (heap_alloc_new W (.cells #[.string ⟨#[]⟩, .string ⟨#[]⟩] 114))
              replace HD := hid (HD.out.alloc (.cells #[.string ⟨#[]⟩, .string ⟨#[]⟩] 114))
              replace HT := hid (blk_alloc HT.out (.cells #[.string ⟨#[]⟩, .string ⟨#[]⟩] 114))
              generalize W.heap.size = bx at *
              generalize W.alloc (.cells #[.string ⟨#[]⟩, .string ⟨#[]⟩] 114) = W at *
              refine wpAnyH_ready (rs := [4, 6]) (by kernel_rfl) (by simp) (AllReadyH.cons rfl (fun K hK => ?_) (AllReadyH.cons rfl (fun K hK => ?_) AllReadyH.nil))
              · obtain ⟨tA, hcA, htA⟩ := tabA_at _ tb x hx HT.out
                go_simp
                refine hK.out _ _ trivial (fun _ => ?_)
                clear hK K
                try simp only [Act.put, List.setIfInBounds_toArray, List.set_cons_zero, List.set_cons_succ]
                clear hcA
                refine wpAnyH_ready (rs := [6]) (by kernel_rfl) (by simp) (AllReadyH.cons rfl (fun K hK => ?_) AllReadyH.nil)
                · go_simp
                  refine (cText ⟨#[97, 98, 60, 38, 34, 62, 32, 49]⟩ 4 w0 a len cap b _ (by omega) (by omega) (by decide) (by decide) hlen HR.out HD.out.cur).mono ?_
                  rintro e W3 ⟨tC, rfl, htC, hC, hG⟩
                  replace HT := hid ((hG.block tb (lt_of_heap HT.out) (fun e => HTB.out (Option.some.inj e))).trans HT.out)
                  replace HX := hid ((hG.block bx (lt_of_heap HX.out) (fun e => by have := HXB.out.1; have := HD.out.lt; have := Option.some.inj e; omega)).trans HX.out)
                  replace HD := hid (HD.out.draw hC hG)
                  clear hC hG
                  go_wp2_with fail
                  refine hK.out _ _ trivial (fun _ => ?_)
                  clear hK K
                  try simp only [Act.put, List.setIfInBounds_toArray, List.set_cons_zero, List.set_cons_succ]
                  generalize W3 = W at *
                  refine wpAnyH_take (i := 7) (v := ?_) rfl (by kernel_rfl) (by kernel_rfl) (by kernel_rfl) (fun _ _ _ h => h) (Or.inl ⟨by rfl, ?_⟩) trivial ?_
                  rotate_left
                  · intro w hSw
                    go_simp
                    try (with_reducible rfl)
                  try simp only [Act.put, List.setIfInBounds_toArray, List.set_cons_zero, List.set_cons_succ]
                  refine wpAnyH_ready (rs := [9]) (by kernel_rfl) (by simp) (AllReadyH.cons rfl (fun K hK => ?_) AllReadyH.nil)
                  · obtain ⟨⟨e0, e1⟩, f0, f1⟩ := box2e HX.out
                    go_simp
                    refine hK.out _ _ trivial (fun _ => ?_)
                    clear hK K
                    try simp only [Act.put, List.setIfInBounds_toArray, List.set_cons_zero, List.set_cons_succ]
                    refine wpAnyH_done (by kernel_rfl) ?_ _
                    go_wp2_with fail
                    go_meet
                    exact ⟨bx, tA, tC, rfl, ⟨box_set2 HX.out, HXB.out, htA, Nat.le_of_lt htC, (HD.out.set HXB.out.1 HXB.out.2 0 _).set HXB.out.1 HXB.out.2 1 _⟩⟩
              · go_simp
                refine (cText ⟨#[97, 98, 60, 38, 34, 62, 32, 49]⟩ 4 w0 a len cap b _ (by omega) (by omega) (by decide) (by decide) hlen HR.out HD.out.cur).mono ?_
                rintro e W3 ⟨tC, rfl, htC, hC, hG⟩
                replace HT := hid ((hG.block tb (lt_of_heap HT.out) (fun e => HTB.out (Option.some.inj e))).trans HT.out)
                replace HX := hid ((hG.block bx (lt_of_heap HX.out) (fun e => by have := HXB.out.1; have := HD.out.lt; have := Option.some.inj e; omega)).trans HX.out)
                replace HD := hid (HD.out.draw hC hG)
                clear hC hG
                go_wp2_with fail
                refine hK.out _ _ trivial (fun _ => ?_)
                clear hK K
                try simp only [Act.put, List.setIfInBounds_toArray, List.set_cons_zero, List.set_cons_succ]
                generalize W3 = W at *
                refine wpAnyH_ready (rs := [4]) (by kernel_rfl) (by simp) (AllReadyH.cons rfl (fun K hK => ?_) AllReadyH.nil)
                · obtain ⟨tA, hcA, htA⟩ := tabA_at _ tb x hx HT.out
                  go_simp
                  refine hK.out _ _ trivial (fun _ => ?_)
                  clear hK K
                  try simp only [Act.put, List.setIfInBounds_toArray, List.set_cons_zero, List.set_cons_succ]
                  clear hcA
                  refine wpAnyH_take (i := 7) (v := ?_) rfl (by kernel_rfl) (by kernel_rfl) (by kernel_rfl) (fun _ _ _ h => h) (Or.inl ⟨by rfl, ?_⟩) trivial ?_
                  rotate_left
                  · intro w hSw
                    go_simp
                    try (with_reducible rfl)
                  try simp only [Act.put, List.setIfInBounds_toArray, List.set_cons_zero, List.set_cons_succ]
                  refine wpAnyH_ready (rs := [9]) (by kernel_rfl) (by simp) (AllReadyH.cons rfl (fun K hK => ?_) AllReadyH.nil)
                  · obtain ⟨⟨e0, e1⟩, f0, f1⟩ := box2e HX.out
                    go_simp
                    refine hK.out _ _ trivial (fun _ => ?_)
                    clear hK K
                    try simp only [Act.put, List.setIfInBounds_toArray, List.set_cons_zero, List.set_cons_succ]
                    refine wpAnyH_done (by kernel_rfl) ?_ _
                    go_wp2_with fail
                    go_meet
                    exact ⟨bx, tA, tC, rfl, ⟨box_set2 HX.out, HXB.out, htA, Nat.le_of_lt htC, (HD.out.set HXB.out.1 HXB.out.2 0 _).set HXB.out.1 HXB.out.2 1 _⟩⟩
          · have HXB := hid (show w.heap.size ≤ W.heap.size ∧ ¬ v.ownBlock = some W.heap.size from ⟨HD.out.gr.size, fun e => by have := (HD.out.own.lt _ e).2; omega⟩)
            go_simp
            refine hK.out _ _ trivial (fun _ => ?_)
            clear hK K
            try simp only [Act.put, List.setIfInBounds_toArray, List.set_cons_zero, List.set_cons_succ]
            have HX := hid (heap_alloc_new W (.cells #[.string ⟨#[]⟩, .string ⟨#[]⟩] 114))
            replace HD := hid (HD.out.alloc (.cells #[.string ⟨#[]⟩, .string ⟨#[]⟩] 114))
            replace HT := hid (blk_alloc HT.out (.cells #[.string ⟨#[]⟩, .string ⟨#[]⟩] 114))
            generalize W.heap.size = bx at *
            generalize W.alloc (.cells #[.string ⟨#[]⟩, .string ⟨#[]⟩] 114) = W at *
            refine wpAnyH_ready (rs := [2]) (by kernel_rfl) (by simp) (AllReadyH.cons rfl (fun K hK => ?_) AllReadyH.nil)
            · go_simp
              refine (cBelow 8 w0 a len cap b _ hlen HR.out HD.out.cur (by omega) (by omega)).mono ?_
              rintro e W2 ⟨x, rfl, hx, hC, hG⟩
              replace HT := hid ((hG.block tb (lt_of_heap HT.out) (fun e => HTB.out (Option.some.inj e))).trans HT.out)
              replace HX := hid ((hG.block bx (lt_of_heap HX.out) (fun e => by have := HXB.out.1; have := HD.out.lt; have := Option.some.inj e; omega)).trans HX.out)
              replace HD := hid (HD.out.draw hC hG)
              have hx8 : (x : Int) < 8 := by omega
              clear hC hG
              go_wp2_with fail
              refine hK.out _ _ trivial (fun _ => ?_)
              clear hK K
              try simp only [Act.put, List.setIfInBounds_toArray, List.set_cons_zero, List.set_cons_succ]
              generalize W2 = W at *
              refine wpAnyH_take (i := 3) (v := ?_) rfl (by kernel_rfl) (by kernel_rfl) (by kernel_rfl) (fun _ _ _ h => h) (Or.inl ⟨by rfl, ?_⟩) trivial ?_
              rotate_left
              · intro w hSw
                go_simp
                try (with_reducible rfl)
              try simp only [Act.put, List.setIfInBounds_toArray, List.set_cons_zero, List.set_cons_succ]
              refine wpAnyH_ready (rs := [4, 6]) (by kernel_rfl) (by simp) (AllReadyH.cons rfl (fun K hK => ?_) (AllReadyH.cons rfl (fun K hK => ?_) AllReadyH.nil))
              · obtain ⟨tA, hcA, htA⟩ := tabA_at _ tb x hx HT.out
                go_simp
                refine hK.out _ _ trivial (fun _ => ?_)
                clear hK K
                try simp only [Act.put, List.setIfInBounds_toArray, List.set_cons_zero, List.set_cons_succ]
                clear hcA
                refine wpAnyH_ready (rs := [6]) (by kernel_rfl) (by simp) (AllReadyH.cons rfl (fun K hK => ?_) AllReadyH.nil)
                · go_simp
                  refine (cText ⟨#[97, 98, 60, 38, 34, 62, 32, 49]⟩ 4 w0 a len cap b _ (by omega) (by omega) (by decide) (by decide) hlen HR.out HD.out.cur).mono ?_
                  rintro e W3 ⟨tC, rfl, htC, hC, hG⟩
                  replace HT := hid ((hG.block tb (lt_of_heap HT.out) (fun e => HTB.out (Option.some.inj e))).trans HT.out)
                  replace HX := hid ((hG.block bx (lt_of_heap HX.out) (fun e => by have := HXB.out.1; have := HD.out.lt; have := Option.some.inj e; omega)).trans HX.out)
                  replace HD := hid (HD.out.draw hC hG)
                  clear hC hG
                  go_wp2_with fail
                  refine hK.out _ _ trivial (fun _ => ?_)
                  clear hK K
                  try simp only [Act.put, List.setIfInBounds_toArray, List.set_cons_zero, List.set_cons_succ]
                  generalize W3 = W at *
                  refine wpAnyH_take (i := 7) (v := ?_) rfl (by kernel_rfl) (by kernel_rfl) (by kernel_rfl) (fun _ _ _ h => h) (Or.inl ⟨by rfl, ?_⟩) trivial ?_
                  rotate_left
                  · intro w hSw
                    go_simp
                    try (with_reducible rfl)
                  try simp only [Act.put, List.setIfInBounds_toArray, List.set_cons_zero, List.set_cons_succ]
                  refine wpAnyH_ready (rs := [9]) (by kernel_rfl) (by simp) (AllReadyH.cons rfl (fun K hK => ?_) AllReadyH.nil)
                  · obtain ⟨⟨e0, e1⟩, f0, f1⟩ := box2e HX.out
                    go_simp
                    refine hK.out _ _ trivial (fun _ => ?_)
                    clear hK K
                    try simp only [Act.put, List.setIfInBounds_toArray, List.set_cons_zero, List.set_cons_succ]
                    refine wpAnyH_done (by kernel_rfl) ?_ _
                    go_wp2_with fail
                    go_meet
                    exact ⟨bx, tA, tC, rfl, ⟨box_set2 HX.out, HXB.out, htA, Nat.le_of_lt htC, (HD.out.set HXB.out.1 HXB.out.2 0 _).set HXB.out.1 HXB.out.2 1 _⟩⟩
              · go_simp
                refine (cText ⟨#[97, 98, 60, 38, 34, 62, 32, 49]⟩ 4 w0 a len cap b _ (by omega) (by omega) (by decide) (by decide) hlen HR.out HD.out.cur).mono ?_
                rintro e W3 ⟨tC, rfl, htC, hC, hG⟩
                replace HT := hid ((hG.block tb (lt_of_heap HT.out) (fun e => HTB.out (Option.some.inj e))).trans HT.out)
                replace HX := hid ((hG.block bx (lt_of_heap HX.out) (fun e => by have := HXB.out.1; have := HD.out.lt; have := Option.some.inj e; omega)).trans HX.out)
                replace HD := hid (HD.out.draw hC hG)
                clear hC hG
                go_wp2_with fail
                refine hK.out _ _ trivial (fun _ => ?_)
                clear hK K
                try simp only [Act.put, List.setIfInBounds_toArray, List.set_cons_zero, List.set_cons_succ]
                generalize W3 = W at *
                refine wpAnyH_ready (rs := [4]) (by kernel_rfl) (by simp) (AllReadyH.cons rfl (fun K hK => ?_) AllReadyH.nil)
                · obtain ⟨tA, hcA, htA⟩ := tabA_at _ tb x hx HT.out
                  go_simp
                  refine hK.out _ _ trivial (fun _ => ?_)
                  clear hK K
                  try simp only [Act.put, List.setIfInBounds_toArray, List.set_cons_zero, List.set_cons_succ]
                  clear hcA
                  refine wpAnyH_take (i := 7) (v := ?_) rfl (by kernel_rfl) (by kernel_rfl) (by kernel_rfl) (fun _ _ _ h => h) (Or.inl ⟨by rfl, ?_⟩) trivial ?_
                  rotate_left
                  · intro w hSw
                    go_simp
                    try (with_reducible rfl)
                  try simp only [Act.put, List.setIfInBounds_toArray, List.set_cons_zero, List.set_cons_succ]
                  refine wpAnyH_ready (rs := [9]) (by kernel_rfl) (by simp) (AllReadyH.cons rfl (fun K hK => ?_) AllReadyH.nil)
                  · obtain ⟨⟨e0, e1⟩, f0, f1⟩ := box2e HX.out
                    go_simp
                    refine hK.out _ _ trivial (fun _ => ?_)
                    clear hK K
                    try simp only [Act.put, List.setIfInBounds_toArray, List.set_cons_zero, List.set_cons_succ]
                    refine wpAnyH_done (by kernel_rfl) ?_ _
                    go_wp2_with fail
                    go_meet
                    exact ⟨bx, tA, tC, rfl, ⟨box_set2 HX.out, HXB.out, htA, Nat.le_of_lt htC, (HD.out.set HXB.out.1 HXB.out.2 0 _).set HXB.out.1 HXB.out.2 1 _⟩⟩
        · go_simp
          refine (cBelow 8 w0 a len cap b _ hlen HR.out HD.out.cur (by omega) (by omega)).mono ?_
          rintro e W2 ⟨x, rfl, hx, hC, hG⟩
          replace HD := hid (HD.out.draw hC hG)
          have hx8 : (x : Int) < 8 := by omega
          clear hC hG
          go_wp2_with fail
          refine hK.out _ _ trivial (fun _ => ?_)
          clear hK K
          try simp only [Act.put, List.setIfInBounds_toArray, List.set_cons_zero, List.set_cons_succ]
          generalize W2 = W at *
          refine wpAnyH_ready (rs := [0, 6, 8]) (by kernel_rfl) (by simp) (AllReadyH.cons rfl (fun K hK => ?_) (AllReadyH.cons rfl (fun K hK => ?_) (AllReadyH.cons rfl (fun K hK => ?_) AllReadyH.nil)))
          · have HTB := hid (show ¬ W.heap.size = b by have := HD.out.gr.size; have := HD.out.lt; omega)
            go_simp
            refine hK.out _ _ trivial (fun _ => ?_)
            clear hK K
            try simp only [Act.put, List.setIfInBounds_toArray, List.set_cons_zero, List.set_cons_succ]
            have HT := hid (heap_alloc_new W (.cells #[.string ⟨#[97]⟩, .string ⟨#[120]⟩, .string ⟨#[112, 58, 97]⟩, .string ⟨#[113, 58, 97]⟩, .string ⟨#[112, 58, 120]⟩, .string ⟨#[110, 115]⟩, .string ⟨#[110, 115, 58, 112]⟩, .string ⟨#[73, 100]⟩] 9))
            replace HD := hid (HD.out.alloc (.cells #[.string ⟨#[97]⟩, .string ⟨#[120]⟩, .string ⟨#[112, 58, 97]⟩, .string ⟨#[113, 58, 97]⟩, .string ⟨#[112, 58, 120]⟩, .string ⟨#[110, 115]⟩, .string ⟨#[110, 115, 58, 112]⟩, .string ⟨#[73, 100]⟩] 9))
            generalize W.heap.size = tb at *
            generalize W.alloc (.cells #[.string ⟨#[97]⟩, .string ⟨#[120]⟩, .string ⟨#[112, 58, 97]⟩, .string ⟨#[113, 58, 97]⟩, .string ⟨#[112, 58, 120]⟩, .string ⟨#[110, 115]⟩, .string ⟨#[110, 115, 58, 112]⟩, .string ⟨#[73, 100]⟩] 9) = W at *
            refine wpAnyH_take (i := 3) (v := ?_) rfl (by kernel_rfl) (by kernel_rfl) (by kernel_rfl) (fun _ _ _ h => h) (Or.inl ⟨by rfl, ?_⟩) trivial ?_
            rotate_left
            · intro w hSw
              go_simp
              try (with_reducible rfl)
            try simp only [Act.put, List.setIfInBounds_toArray, List.set_cons_zero, List.set_cons_succ]
            refine wpAnyH_ready (rs := [4, 6, 8]) (by kernel_rfl) (by simp) (AllReadyH.cons rfl (fun K hK => ?_) (AllReadyH.cons rfl (fun K hK => ?_) (AllReadyH.cons rfl (fun K hK => ?_) AllReadyH.nil)))
            · obtain ⟨tA, hcA, htA⟩ := tabA_at _ tb x hx HT.out
              go_simp
              refine hK.out _ _ trivial (fun _ => ?_)
              clear hK K
              try simp only [Act.put, List.setIfInBounds_toArray, List.set_cons_zero, List.set_cons_succ]
              clear hcA
              refine wpAnyH_ready (rs := [6, 8]) (by kernel_rfl) (by simp) (AllReadyH.cons rfl (fun K hK => ?_) (AllReadyH.cons rfl (fun K hK => ?_) AllReadyH.nil))
              · go_simp
                refine (cText ⟨#[97, 98, 60, 38, 34, 62, 32, 49]⟩ 4 w0 a len cap b _ (by omega) (by omega) (by decide) (by decide) hlen HR.out HD.out.cur).mono ?_
                rintro e W3 ⟨tC, rfl, htC, hC, hG⟩
                replace HT := hid ((hG.block tb (lt_of_heap HT.out) (fun e => HTB.out (Option.some.inj e))).trans HT.out)
                replace HD := hid (HD.out.draw hC hG)
                clear hC hG
                go_wp2_with fail
                refine hK.out _ _ trivial (fun _ => ?_)
                clear hK K
                try simp only [Act.put, List.setIfInBounds_toArray, List.set_cons_zero, List.set_cons_succ]
                generalize W3 = W at *
                refine wpAnyH_take (i := 7) (v := ?_) rfl (by kernel_rfl) (by kernel_rfl) (by kernel_rfl) (fun _ _ _ h => h) (Or.inl ⟨by rfl, ?_⟩) trivial ?_
                rotate_left
                · intro w hSw
                  go_simp
                  try (with_reducible rfl)
                try simp only [Act.put, List.setIfInBounds_toArray, List.set_cons_zero, List.set_cons_succ]
                refine wpAnyH_ready (rs := [8]) (by kernel_rfl) (by simp) (AllReadyH.cons rfl (fun K hK => ?_) AllReadyH.nil)
                · have HXB := hid (show w.heap.size ≤ W.heap.size ∧ ¬ v.ownBlock = some W.heap.size from ⟨HD.out.gr.size, fun e => by have := (HD.out.own.lt _ e).2; omega⟩)
                  go_simp
                  refine hK.out _ _ trivial (fun _ => ?_)
                  clear hK K
                  try simp only [Act.put, List.setIfInBounds_toArray, List.set_cons_zero, List.set_cons_succ]
                  have HX := hid (heap_alloc_new W (.cells #[.string ⟨#[]⟩, .string ⟨#[]⟩] 114))
                  replace HD := hid (HD.out.alloc (.cells #[.string ⟨#[]⟩, .string ⟨#[]⟩] 114))
                  replace HT := hid (blk_alloc HT.out (.cells #[.string ⟨#[]⟩, .string ⟨#[]⟩] 114))
                  generalize W.heap.size = bx at *
                  generalize W.alloc (.cells #[.string ⟨#[]⟩, .string ⟨#[]⟩] 114) = W at *
                  refine wpAnyH_ready (rs := [9]) (by kernel_rfl) (by simp) (AllReadyH.cons rfl (fun K hK => ?_) AllReadyH.nil)
                  · obtain ⟨⟨e0, e1⟩, f0, f1⟩ := box2e HX.out
                    go_simp
                    refine hK.out _ _ trivial (fun _ => ?_)
                    clear hK K
                    try simp only [Act.put, List.setIfInBounds_toArray, List.set_cons_zero, List.set_cons_succ]
                    refine wpAnyH_done (by kernel_rfl) ?_ _
                    go_wp2_with fail
                    go_meet
                    exact ⟨bx, tA, tC, rfl, ⟨box_set2 HX.out, HXB.out, htA, Nat.le_of_lt htC, (HD.out.set HXB.out.1 HXB.out.2 0 _).set HXB.out.1 HXB.out.2 1 _⟩⟩
              · have HXB := hid (show w.heap.size ≤ W.heap.size ∧ ¬ v.ownBlock = some W.heap.size from ⟨HD.out.gr.size, fun e => by have := (HD.out.own.lt _ e).2; omega⟩)
                go_simp
                refine hK.out _ _ trivial (fun _ => ?_)
                clear hK K
                try simp only [Act.put, List.setIfInBounds_toArray, List.set_cons_zero, List.set_cons_succ]
                have HX := hid (heap_alloc_new W (.cells #[.string ⟨#[]⟩, .string ⟨#[]⟩] 114))
                replace HD := hid (HD.out.alloc (.cells #[.string ⟨#[]⟩, .string ⟨#[]⟩] 114))
                replace HT := hid (blk_alloc HT.out (.cells #[.string ⟨#[]⟩, .string ⟨#[]⟩] 114))
                generalize W.heap.size = bx at *
                generalize W.alloc (.cells #[.string ⟨#[]⟩, .string ⟨#[]⟩] 114) = W at *
                refine wpAnyH_ready (rs := [6]) (by kernel_rfl) (by simp) (AllReadyH.cons rfl (fun K hK => ?_) AllReadyH.nil)
                · go_simp
                  refine (cText ⟨#[97, 98, 60, 38, 34, 62, 32, 49]⟩ 4 w0 a len cap b _ (by omega) (by omega) (by decide) (by decide) hlen HR.out HD.out.cur).mono ?_
                  rintro e W3 ⟨tC, rfl, htC, hC, hG⟩
                  replace HT := hid ((hG.block tb (lt_of_heap HT.out) (fun e => HTB.out (Option.some.inj e))).trans HT.out)
                  replace HX := hid ((hG.block bx (lt_of_heap HX.out) (fun e => by have := HXB.out.1; have := HD.out.lt; have := Option.some.inj e; omega)).trans HX.out)
                  replace HD := hid (HD.out.draw hC hG)
                  clear hC hG
                  go_wp2_with fail
                  refine hK.out _ _ trivial (fun _ => ?_)
                  clear hK K
                  try simp only [Act.put, List.setIfInBounds_toArray, List.set_cons_zero, List.set_cons_succ]
                  generalize W3 = W at *
                  refine wpAnyH_take (i := 7) (v := ?_) rfl (by kernel_rfl) (by kernel_rfl) (by kernel_rfl) (fun _ _ _ h => h) (Or.inl ⟨by rfl, ?_⟩) trivial ?_
                  rotate_left
                  · intro w hSw
                    go_simp
                    try (with_reducible rfl)
                  try simp only [Act.put, List.setIfInBounds_toArray, List.set_cons_zero, List.set_cons_succ]
                  refine wpAnyH_ready (rs := [9]) (by kernel_rfl) (by simp) (AllReadyH.cons rfl (fun K hK => ?_) AllReadyH.nil)
                  · obtain ⟨⟨e0, e1⟩, f0, f1⟩ := box2e HX.out
                    go_simp
                    refine hK.out _ _ trivial (fun _ => ?_)
                    clear hK K
                    try simp only [Act.put, List.setIfInBounds_toArray, List.set_cons_zero, List.set_cons_succ]
                    refine wpAnyH_done (by kernel_rfl) ?_ _
                    go_wp2_with fail
                    go_meet
                    exact ⟨bx, tA, tC, rfl, ⟨box_set2 HX.out, HXB.out, htA, Nat.le_of_lt htC, (HD.out.set HXB.out.1 HXB.out.2 0 _).set HXB.out.1 HXB.out.2 1 _⟩⟩
            · go_simp
              refine (cText ⟨#[97, 98, 60, 38, 34, 62, 32, 49]⟩ 4 w0 a len cap b _ (by omega) (by omega) (by decide) (by decide) hlen HR.out HD.out.cur).mono ?_
              rintro e W3 ⟨tC, rfl, htC, hC, hG⟩
              replace HT := hid ((hG.block tb (lt_of_heap HT.out) (fun e => HTB.out (Option.some.inj e))).trans HT.out)
              replace HD := hid (HD.out.draw hC hG)
              clear hC hG
              go_wp2_with fail
              refine hK.out _ _ trivial (fun _ => ?_)
              clear hK K
              try simp only [Act.put, List.setIfInBounds_toArray, List.set_cons_zero, List.set_cons_succ]
              generalize W3 = W at *
              refine wpAnyH_ready (rs := [4, 8]) (by kernel_rfl) (by simp) (AllReadyH.cons rfl (fun K hK => ?_) (AllReadyH.cons rfl (fun K hK => ?_) AllReadyH.nil))
              · obtain ⟨tA, hcA, htA⟩ := tabA_at _ tb x hx HT.out
                go_simp
                refine hK.out _ _ trivial (fun _ => ?_)
                clear hK K
                try simp only [Act.put, List.setIfInBounds_toArray, List.set_cons_zero, List.set_cons_succ]
                clear hcA
                refine wpAnyH_take (i := 7) (v := ?_) rfl (by kernel_rfl) (by kernel_rfl) (by kernel_rfl) (fun _ _ _ h => h) (Or.inl ⟨by rfl, ?_⟩) trivial ?_
                rotate_left
                · intro w hSw
                  go_simp
                  try (with_reducible rfl)
                try simp only [Act.put, List.setIfInBounds_toArray, List.set_cons_zero, List.set_cons_succ]
                refine wpAnyH_ready (rs := [8]) (by kernel_rfl) (by simp) (AllReadyH.cons rfl (fun K hK => ?_) AllReadyH.nil)
                · have HXB := hid (show w.heap.size ≤ W.heap.size ∧ ¬ v.ownBlock = some W.heap.size from ⟨HD.out.gr.size, fun e => by have := (HD.out.own.lt _ e).2; omega⟩)
                  go_simp
                  refine hK.out _ _ trivial (fun _ => ?_)
                  clear hK K
                  try simp only [Act.put, List.setIfInBounds_toArray, List.set_cons_zero, List.set_cons_succ]
                  have HX := hid (heap_alloc_new W (.cells #[.string ⟨#[]⟩, .string ⟨#[]⟩] 114))
                  replace HD := hid (HD.out.alloc (.cells #[.string ⟨#[]⟩, .string ⟨#[]⟩] 114))
                  replace HT := hid (blk_alloc HT.out (.cells #[.string ⟨#[]⟩, .string ⟨#[]⟩] 114))
                  generalize W.heap.size = bx at *
                  generalize W.alloc (.cells #[.string ⟨#[]⟩, .string ⟨#[]⟩] 114) = W at *
                  refine wpAnyH_ready (rs := [9]) (by kernel_rfl) (by simp) (AllReadyH.cons rfl (fun K hK => ?_) AllReadyH.nil)
                  · obtain ⟨⟨e0, e1⟩, f0, f1⟩ := box2e HX.out
                    go_simp
                    refine hK.out _ _ trivial (fun _ => ?_)
                    clear hK K
                    try simp only [Act.put, List.setIfInBounds_toArray, List.set_cons_zero, List.set_cons_succ]
                    refine wpAnyH_done (by kernel_rfl) ?_ _
                    go_wp2_with fail
                    go_meet
                    exact ⟨bx, tA, tC, rfl, ⟨box_set2 HX.out, HXB.out, htA, Nat.le_of_lt htC, (HD.out.set HXB.out.1 HXB.out.2 0 _).set HXB.out.1 HXB.out.2 1 _⟩⟩
              · have HXB := hid (show w.heap.size ≤ W.heap.size ∧ ¬ v.ownBlock = some W.heap.size from ⟨HD.out.gr.size, fun e => by have := (HD.out.own.lt _ e).2; omega⟩)
                go_simp
                refine hK.out _ _ trivial (fun _ => ?_)
                clear hK K
                try simp only [Act.put, List.setIfInBounds_toArray, List.set_cons_zero, List.set_cons_succ]
                have HX := hid (heap_alloc_new W (.cells #[.string ⟨#[]⟩, .string ⟨#[]⟩] 114))
                replace HD := hid (HD.out.alloc (.cells #[.string ⟨#[]⟩, .string ⟨#[]⟩] 114))
                replace HT := hid (blk_alloc HT.out (.cells #[.string ⟨#[]⟩, .string ⟨#[]⟩] 114))
                generalize W.heap.size = bx at *
                generalize W.alloc (.cells #[.string ⟨#[]⟩, .string ⟨#[]⟩] 114) = W at *
                refine wpAnyH_ready (rs := [4]) (by kernel_rfl) (by simp) (AllReadyH.cons rfl (fun K hK => ?_) AllReadyH.nil)
                · obtain ⟨tA, hcA, htA⟩ := tabA_at _ tb x hx HT.out
                  go_simp
                  refine hK.out _ _ trivial (fun _ => ?_)
                  clear hK K
                  try simp only [Act.put, List.setIfInBounds_toArray, List.set_cons_zero, List.set_cons_succ]
                  clear hcA
                  refine wpAnyH_take (i := 7) (v := ?_) rfl (by kernel_rfl) (by kernel_rfl) (by kernel_rfl) (fun _ _ _ h => h) (Or.inl ⟨by rfl, ?_⟩) trivial ?_
                  rotate_left
                  · intro w hSw
                    go_simp
                    try (with_reducible rfl)
                  try simp only [Act.put, List.setIfInBounds_toArray, List.set_cons_zero, List.set_cons_succ]
                  refine wpAnyH_ready (rs := [9]) (by kernel_rfl) (by simp) (AllReadyH.cons rfl (fun K hK => ?_) AllReadyH.nil)
                  · obtain ⟨⟨e0, e1⟩, f0, f1⟩ := box2e HX.out
                    go_simp
                    refine hK.out _ _ trivial (fun _ => ?_)
                    clear hK K
                    try simp only [Act.put, List.setIfInBounds_toArray, List.set_cons_zero, List.set_cons_succ]
                    refine wpAnyH_done (by kernel_rfl) ?_ _
                    go_wp2_with fail
                    go_meet
                    exact ⟨bx, tA, tC, rfl, ⟨box_set2 HX.out, HXB.out, htA, Nat.le_of_lt htC, (HD.out.set HXB.out.1 HXB.out.2 0 _).set HXB.out.1 HXB.out.2 1 _⟩⟩
            · have HXB := hid (show w.heap.size ≤ W.heap.size ∧ ¬ v.ownBlock = some W.heap.size from ⟨HD.out.gr.size, fun e => by have := (HD.out.own.lt _ e).2; omega⟩)
              go_simp
              refine hK.out _ _ trivial (fun _ => ?_)
              clear hK K
              try simp only [Act.put, List.setIfInBounds_toArray, List.set_cons_zero, List.set_cons_succ]
              have HX := hid (heap_alloc_new W (.cells #[.string ⟨#[]⟩, .string ⟨#[]⟩] 114))
              replace HD := hid (HD.out.alloc (.cells #[.string ⟨#[]⟩, .string ⟨#[]⟩] 114))
              replace HT := hid (blk_alloc HT.out (.cells #[.string ⟨#[]⟩, .string ⟨#[]⟩] 114))
              generalize W.heap.size = bx at *
              generalize W.alloc (.cells #[.string ⟨#[]⟩, .string ⟨#[]⟩] 114) = W at *
              refine wpAnyH_ready (rs := [4, 6]) (by kernel_rfl) (by simp) (AllReadyH.cons rfl (fun K hK => ?_) (AllReadyH.cons rfl (fun K hK => ?_) AllReadyH.nil))
              · obtain ⟨tA, hcA, htA⟩ := tabA_at _ tb x hx HT.out
                go_simp
                refine hK.out _ _ trivial (fun _ => ?_)
                clear hK K
                try simp only [Act.put, List.setIfInBounds_toArray, List.set_cons_zero, List.set_cons_succ]
                clear hcA
                refine wpAnyH_ready (rs := [6]) (by kernel_rfl) (by simp) (AllReadyH.cons rfl (fun K hK => ?_) AllReadyH.nil)
                · go_simp
                  refine (cText ⟨#[97, 98, 60, 38, 34, 62, 32, 49]⟩ 4 w0 a len cap b _ (by omega) (by omega) (by decide) (by decide) hlen HR.out HD.out.cur).mono ?_
                  rintro e W3 ⟨tC, rfl, htC, hC, hG⟩
                  replace HT := hid ((hG.block tb (lt_of_heap HT.out) (fun e => HTB.out (Option.some.inj e))).trans HT.out)
                  replace HX := hid ((hG.block bx (lt_of_heap HX.out) (fun e => by have := HXB.out.1; have := HD.out.lt; have := Option.some.inj e; omega)).trans HX.out)
                  replace HD := hid (HD.out.draw hC hG)
                  clear hC hG
                  go_wp2_with fail
                  refine hK.out _ _ trivial (fun _ => ?_)
                  clear hK K
                  try simp only [Act.put, List.setIfInBounds_toArray, List.set_cons_zero, List.set_cons_succ]
                  generalize W3 = W at *
                  refine wpAnyH_take (i := 7) (v := ?_) rfl (by kernel_rfl) (by kernel_rfl) (by kernel_rfl) (fun _ _ _ h => h) (Or.inl ⟨by rfl, ?_⟩) trivial ?_
                  rotate_left
                  · intro w hSw
                    go_simp
                    try (with_reducible rfl)
                  try simp only [Act.put, List.setIfInBounds_toArray, List.set_cons_zero, List.set_cons_succ]
                  refine wpAnyH_ready (rs := [9]) (by kernel_rfl) (by simp) (AllReadyH.cons rfl (fun K hK => ?_) AllReadyH.nil)
                  · obtain ⟨⟨e0, e1⟩, f0, f1⟩ := box2e HX.out
                    go_simp
                    refine hK.out _ _ trivial (fun _ => ?_)
                    clear hK K
                    try simp only [Act.put, List.setIfInBounds_toArray, List.set_cons_zero, List.set_cons_succ]
                    refine wpAnyH_done (by kernel_rfl) ?_ _
                    go_wp2_with fail
                    go_meet
                    exact ⟨bx, tA, tC, rfl, ⟨box_set2 HX.out, HXB.out, htA, Nat.le_of_lt htC, (HD.out.set HXB.out.1 HXB.out.2 0 _).set HXB.out.1 HXB.out.2 1 _⟩⟩
              · go_simp
                refine (cText ⟨#[97, 98, 60, 38, 34, 62, 32, 49]⟩ 4 w0 a len cap b _ (by omega) (by omega) (by decide) (by decide) hlen HR.out HD.out.cur).mono ?_
                rintro e W3 ⟨tC, rfl, htC, hC, hG⟩
                replace HT := hid ((hG.block tb (lt_of_heap HT.out) (fun e => HTB.out (Option.some.inj e))).trans HT.out)
                replace HX := hid ((hG.block bx (lt_of_heap HX.out) (fun e => by have := HXB.out.1; have := HD.out.lt; have := Option.some.inj e; omega)).trans HX.out)
                replace HD := hid (HD.out.draw hC hG)
                clear hC hG
                go_wp2_with fail
                refine hK.out _ _ trivial (fun _ => ?_)
                clear hK K
                try simp only [Act.put, List.setIfInBounds_toArray, List.set_cons_zero, List.set_cons_succ]
                generalize W3 = W at *
                refine wpAnyH_ready (rs := [4]) (by kernel_rfl) (by simp) (AllReadyH.cons rfl (fun K hK => ?_) AllReadyH.nil)
                · obtain ⟨tA, hcA, htA⟩ := tabA_at _ tb x hx HT.out
                  go_simp
                  refine hK.out _ _ trivial (fun _ => ?_)
                  clear hK K
                  try simp only [Act.put, List.setIfInBounds_toArray, List.set_cons_zero, List.set_cons_succ]
                  clear hcA
                  refine wpAnyH_take (i := 7) (v := ?_) rfl (by kernel_rfl) (by kernel_rfl) (by kernel_rfl) (fun _ _ _ h => h) (Or.inl ⟨by rfl, ?_⟩) trivial ?_
                  rotate_left
                  · intro w hSw
                    go_simp
                    try (with_reducible rfl)
                  try simp only [Act.put, List.setIfInBounds_toArray, List.set_cons_zero, List.set_cons_succ]
                  refine wpAnyH_ready (rs := [9]) (by kernel_rfl) (by simp) (AllReadyH.cons rfl (fun K hK => ?_) AllReadyH.nil)
                  · obtain ⟨⟨e0, e1⟩, f0, f1⟩ := box2e HX.out
                    go_simp
                    refine hK.out _ _ trivial (fun _ => ?_)
                    clear hK K
                    try simp only [Act.put, List.setIfInBounds_toArray, List.set_cons_zero, List.set_cons_succ]
                    refine wpAnyH_done (by kernel_rfl) ?_ _
                    go_wp2_with fail
                    go_meet
                    exact ⟨bx, tA, tC, rfl, ⟨box_set2 HX.out, HXB.out, htA, Nat.le_of_lt htC, (HD.out.set HXB.out.1 HXB.out.2 0 _).set HXB.out.1 HXB.out.2 1 _⟩⟩
          · go_simp
            refine (cText ⟨#[97, 98, 60, 38, 34, 62, 32, 49]⟩ 4 w0 a len cap b _ (by omega) (by omega) (by decide) (by decide) hlen HR.out HD.out.cur).mono ?_
            rintro e W3 ⟨tC, rfl, htC, hC, hG⟩
            replace HD := hid (HD.out.draw hC hG)
            clear hC hG
            go_wp2_with fail
            refine hK.out _ _ trivial (fun _ => ?_)
            clear hK K
            try simp only [Act.put, List.setIfInBounds_toArray, List.set_cons_zero, List.set_cons_succ]
            generalize W3 = W at *
            refine wpAnyH_ready (rs := [0, 8]) (by kernel_rfl) (by simp) (AllReadyH.cons rfl (fun K hK => ?_) (AllReadyH.cons rfl (fun K hK => ?_) AllReadyH.nil))
            · have HTB := hid (show ¬ W.heap.size = b by have := HD.out.gr.size; have := HD.out.lt; omega)
              go_simp
              refine hK.out _ _ trivial (fun _ => ?_)
              clear hK K
              try simp only [Act.put, List.setIfInBounds_toArray, List.set_cons_zero, List.set_cons_succ]
              have HT := hid (heap_alloc_new W (.cells #[.string ⟨#[97]⟩, .string ⟨#[120]⟩, .string ⟨#[112, 58, 97]⟩, .string ⟨#[113, 58, 97]⟩, .string ⟨#[112, 58, 120]⟩, .string ⟨#[110, 115]⟩, .string ⟨#[110, 115, 58, 112]⟩, .string ⟨#[73, 100]⟩] 9))
              replace HD := hid (HD.out.alloc (.cells #[.string ⟨#[97]⟩, .string ⟨#[120]⟩, .string ⟨#[112, 58, 97]⟩, .string ⟨#[113, 58, 97]⟩, .string ⟨#[112, 58, 120]⟩, .string ⟨#[110, 115]⟩, .string ⟨#[110, 115, 58, 112]⟩, .string ⟨#[73, 100]⟩] 9))
              generalize W.heap.size = tb at *
              generalize W.alloc (.cells #[.string ⟨#[97]⟩, .string ⟨#[120]⟩, .string ⟨#[112, 58, 97]⟩, .string ⟨#[113, 58, 97]⟩, .string ⟨#[112, 58, 120]⟩, .string ⟨#[110, 115]⟩, .string ⟨#[110, 115, 58, 112]⟩, .string ⟨#[73, 100]⟩] 9) = W at *
              refine wpAnyH_take (i := 3) (v := ?_) rfl (by kernel_rfl) (by kernel_rfl) (by kernel_rfl) (fun _ _ _ h => h) (Or.inl ⟨by rfl, ?_⟩) trivial ?_
              rotate_left
              · intro w hSw
                go_simp
                try (with_reducible rfl)
              try simp only [Act.put, List.setIfInBounds_toArray, List.set_cons_zero, List.set_cons_succ]
              refine wpAnyH_ready (rs := [4, 8]) (by kernel_rfl) (by simp) (AllReadyH.cons rfl (fun K hK => ?_) (AllReadyH.cons rfl (fun K hK => ?_) AllReadyH.nil))
              · obtain ⟨tA, hcA, htA⟩ := tabA_at _ tb x hx HT.out
                go_simp
                refine hK.out _ _ trivial (fun _ => ?_)
                clear hK K
                try simp only [Act.put, List.setIfInBounds_toArray, List.set_cons_zero, List.set_cons_succ]
                clear hcA
                refine wpAnyH_take (i := 7) (v := ?_) rfl (by kernel_rfl) (by kernel_rfl) (by kernel_rfl) (fun _ _ _ h => h) (Or.inl ⟨by rfl, ?_⟩) trivial ?_
                rotate_left
                · intro w hSw
                  go_simp
                  try (with_reducible rfl)
                try simp only [Act.put, List.setIfInBounds_toArray, List.set_cons_zero, List.set_cons_succ]
                refine wpAnyH_ready (rs := [8]) (by kernel_rfl) (by simp) (AllReadyH.cons rfl (fun K hK => ?_) AllReadyH.nil)
                · have HXB := hid (show w.heap.size ≤ W.heap.size ∧ ¬ v.ownBlock = some W.heap.size from ⟨HD.out.gr.size, fun e => by have := (HD.out.own.lt _ e).2; omega⟩)
                  go_simp
                  refine hK.out _ _ trivial (fun _ => ?_)
                  clear hK K
                  try simp only [Act.put, List.setIfInBounds_toArray, List.set_cons_zero, List.set_cons_succ]
                  have HX := hid (heap_alloc_new W (.cells #[.string ⟨#[]⟩, .string ⟨#[]⟩] 114))
                  replace HD := hid (HD.out.alloc (.cells #[.string ⟨#[]⟩, .string ⟨#[]⟩] 114))
                  replace HT := hid (blk_alloc HT.out (.cells #[.string ⟨#[]⟩, .string ⟨#[]⟩] 114))
                  generalize W.heap.size = bx at *
                  generalize W.alloc (.cells #[.string ⟨#[]⟩, .string ⟨#[]⟩] 114) = W at *
                  refine wpAnyH_ready (rs := [9]) (by kernel_rfl) (by simp) (AllReadyH.cons rfl (fun K hK => ?_) AllReadyH.nil)
                  · obtain ⟨⟨e0, e1⟩, f0, f1⟩ := box2e HX.out
                    go_simp
                    refine hK.out _ _ trivial (fun _ => ?_)
                    clear hK K
                    try simp only [Act.put, List.setIfInBounds_toArray, List.set_cons_zero, List.set_cons_succ]
                    refine wpAnyH_done (by kernel_rfl) ?_ _
                    go_wp2_with fail
                    go_meet
                    exact ⟨bx, tA, tC, rfl, ⟨box_set2 HX.out, HXB.out, htA, Nat.le_of_lt htC, (HD.out.set HXB.out.1 HXB.out.2 0 _).set HXB.out.1 HXB.out.2 1 _⟩⟩
              · have HXB := hid (show w.heap.size ≤ W.heap.size ∧ ¬ v.ownBlock = some W.heap.size from ⟨HD.out.gr.size, fun e => by have := (HD.out.own.lt _ e).2; omega⟩)
                go_simp
                refine hK.out _ _ trivial (fun _ => ?_)
                clear hK K
                try simp only [Act.put, List.setIfInBounds_toArray, List.set_cons_zero, List.set_cons_succ]
                have HX := hid (heap_alloc_new W (.cells #[.string ⟨#[]⟩, .string ⟨#[]⟩] 114))
                replace HD := hid (HD.out.alloc (.cells #[.string ⟨#[]⟩, .string ⟨#[]⟩] 114))
                replace HT := hid (blk_alloc HT.out (.cells #[.string ⟨#[]⟩, .string ⟨#[]⟩] 114))
                generalize W.heap.size = bx at *
                generalize W.alloc (.cells #[.string ⟨#[]⟩, .string ⟨#[]⟩] 114) = W at *
                refine wpAnyH_ready (rs := [4]) (by kernel_rfl) (by simp) (AllReadyH.cons rfl (fun K hK => ?_) AllReadyH.nil)
                · obtain ⟨tA, hcA, htA⟩ := tabA_at _ tb x hx HT.out
                  go_simp
                  refine hK.out _ _ trivial (fun _ => ?_)
                  clear hK K
                  try simp only [Act.put, List.setIfInBounds_toArray, List.set_cons_zero, List.set_cons_succ]
                  clear hcA
                  refine wpAnyH_take (i := 7) (v := ?_) rfl (by kernel_rfl) (by kernel_rfl) (by kernel_rfl) (fun _ _ _ h => h) (Or.inl ⟨by rfl, ?_⟩) trivial ?_
                  rotate_left
                  · intro w hSw
                    go_simp
                    try (with_reducible rfl)
                  try simp only [Act.put, List.setIfInBounds_toArray, List.set_cons_zero, List.set_cons_succ]
                  refine wpAnyH_ready (rs := [9]) (by kernel_rfl) (by simp) (AllReadyH.cons rfl (fun K hK => ?_) AllReadyH.nil)
                  · obtain ⟨⟨e0, e1⟩, f0, f1⟩ := box2e HX.out
                    go_simp
                    refine hK.out _ _ trivial (fun _ => ?_)
                    clear hK K
                    try simp only [Act.put, List.setIfInBounds_toArray, List.set_cons_zero, List.set_cons_succ]
                    refine wpAnyH_done (by kernel_rfl) ?_ _
                    go_wp2_with fail
                    go_meet
                    exact ⟨bx, tA, tC, rfl, ⟨box_set2 HX.out, HXB.out, htA, Nat.le_of_lt htC, (HD.out.set HXB.out.1 HXB.out.2 0 _).set HXB.out.1 HXB.out.2 1 _⟩⟩
            · have HXB := hid (show w.heap.size ≤ W.heap.size ∧ ¬ v.ownBlock = some W.heap.size from ⟨HD.out.gr.size, fun e => by have := (HD.out.own.lt _ e).2; omega⟩)
              go_simp
              refine hK.out _ _ trivial (fun _ => ?_)
              clear hK K
              try simp only [Act.put, List.setIfInBounds_toArray, List.set_cons_zero, List.set_cons_succ]
              have HX := hid (heap_alloc_new W (.cells #[.string ⟨#[]⟩, .string ⟨#[]⟩] 114))
              replace HD := hid (HD.out.alloc (.cells #[.string ⟨#[]⟩, .string ⟨#[]⟩] 114))
              generalize W.heap.size = bx at *
              generalize W.alloc (.cells #[.string ⟨#[]⟩, .string ⟨#[]⟩] 114) = W at *
              refine wpAnyH_ready (rs := [0]) (by kernel_rfl) (by simp) (AllReadyH.cons rfl (fun K hK => ?_) AllReadyH.nil)
              · have HTB := hid (show ¬ W.heap.size = b by have := HD.out.gr.size; have := HD.out.lt; omega)
                go_simp
                refine hK.out _ _ trivial (fun _ => ?_)
                clear hK K
                try simp only [Act.put, List.setIfInBounds_toArray, List.set_cons_zero, List.set_cons_succ]
                have HT := hid (heap_alloc_new W (.cells #[.string ⟨#[97]⟩, .string ⟨#[120]⟩, .string ⟨#[112, 58, 97]⟩, .string ⟨#[113, 58, 97]⟩, .string ⟨#[112, 58, 120]⟩, .string ⟨#[110, 115]⟩, .string ⟨#[110, 115, 58, 112]⟩, .string ⟨#[73, 100]⟩] 9))
                replace HD := hid (HD.out.alloc (.cells #[.string ⟨#[97]⟩, .string ⟨#[120]⟩, .string ⟨#[112, 58, 97]⟩, .string ⟨#[113, 58, 97]⟩, .string ⟨#[112, 58, 120]⟩, .string ⟨#[110, 115]⟩, .string ⟨#[110, 115, 58, 112]⟩, .string ⟨#[73, 100]⟩] 9))
                replace HX := hid (blk_alloc HX.out (.cells #[.string ⟨#[97]⟩, .string ⟨#[120]⟩, .string ⟨#[112, 58, 97]⟩, .string ⟨#[113, 58, 97]⟩, .string ⟨#[112, 58, 120]⟩, .string ⟨#[110, 115]⟩, .string ⟨#[110, 115, 58, 112]⟩, .string ⟨#[73, 100]⟩] 9))
                generalize W.heap.size = tb at *
                generalize W.alloc (.cells #[.string ⟨#[97]⟩, .string ⟨#[120]⟩, .string ⟨#[112, 58, 97]⟩, .string ⟨#[113, 58, 97]⟩, .string ⟨#[112, 58, 120]⟩, .string ⟨#[110, 115]⟩, .string ⟨#[110, 115, 58, 112]⟩, .string ⟨#[73, 100]⟩] 9) = W at *
                refine wpAnyH_take (i := 3) (v := ?_) rfl (by kernel_rfl) (by kernel_rfl) (by kernel_rfl) (fun _ _ _ h => h) (Or.inl ⟨by rfl, ?_⟩) trivial ?_
                rotate_left
                · intro w hSw
                  go_simp
                  try (with_reducible rfl)
                try simp only [Act.put, List.setIfInBounds_toArray, List.set_cons_zero, List.set_cons_succ]
                refine wpAnyH_ready (rs := [4]) (by kernel_rfl) (by simp) (AllReadyH.cons rfl (fun K hK => ?_) AllReadyH.nil)
                · obtain ⟨tA, hcA, htA⟩ := tabA_at _ tb x hx HT.out
                  go_simp
                  refine hK.out _ _ trivial (fun _ => ?_)
                  clear hK K
                  try simp only [Act.put, List.setIfInBounds_toArray, List.set_cons_zero, List.set_cons_succ]
                  clear hcA
                  refine wpAnyH_take (i := 7) (v := ?_) rfl (by kernel_rfl) (by kernel_rfl) (by kernel_rfl) (fun _ _ _ h => h) (Or.inl ⟨by rfl, ?_⟩) trivial ?_
                  rotate_left
                  · intro w hSw
                    go_simp
                    try (with_reducible rfl)
                  try simp only [Act.put, List.setIfInBounds_toArray, List.set_cons_zero, List.set_cons_succ]
                  refine wpAnyH_ready (rs := [9]) (by kernel_rfl) (by simp) (AllReadyH.cons rfl (fun K hK => ?_) AllReadyH.nil)
                  · obtain ⟨⟨e0, e1⟩, f0, f1⟩ := box2e HX.out
                    go_simp
                    refine hK.out _ _ trivial (fun _ => ?_)
                    clear hK K
                    try simp only [Act.put, List.setIfInBounds_toArray, List.set_cons_zero, List.set_cons_succ]
                    refine wpAnyH_done (by kernel_rfl) ?_ _
                    go_wp2_with fail
                    go_meet
                    exact ⟨bx, tA, tC, rfl, ⟨box_set2 HX.out, HXB.out, htA, Nat.le_of_lt htC, (HD.out.set HXB.out.1 HXB.out.2 0 _).set HXB.out.1 HXB.out.2 1 _⟩⟩
          · have HXB := hid (show w.heap.size ≤ W.heap.size ∧ ¬ v.ownBlock = some W.heap.size from ⟨HD.out.gr.size, fun e => by have := (HD.out.own.lt _ e).2; omega⟩)
            go_simp
            refine hK.out _ _ trivial (fun _ => ?_)
            clear hK K
            try simp only [Act.put, List.setIfInBounds_toArray, List.set_cons_zero, List.set_cons_succ]
            have HX := hid (heap_alloc_new W (.cells #[.string ⟨#[]⟩, .string ⟨#[]⟩] 114))
            replace HD := hid (HD.out.alloc (.cells #[.string ⟨#[]⟩, .string ⟨#[]⟩] 114))
            generalize W.heap.size = bx at *
            generalize W.alloc (.cells #[.string ⟨#[]⟩, .string ⟨#[]⟩] 114) = W at *
            refine wpAnyH_ready (rs := [0, 6]) (by kernel_rfl) (by simp) (AllReadyH.cons rfl (fun K hK => ?_) (AllReadyH.cons rfl (fun K hK => ?_) AllReadyH.nil))
            · have HTB := hid (show ¬ W.heap.size = b by have := HD.out.gr.size; have := HD.out.lt; omega)
              go_simp
              refine hK.out _ _ trivial (fun _ => ?_)
              clear hK K
              try simp only [Act.put, List.setIfInBounds_toArray, List.set_cons_zero, List.set_cons_succ]
              have HT := hid (heap_alloc_new W (.cells #[.string ⟨#[97]⟩, .string ⟨#[120]⟩, .string ⟨#[112, 58, 97]⟩, .string ⟨#[113, 58, 97]⟩, .string ⟨#[112, 58, 120]⟩, .string ⟨#[110, 115]⟩, .string ⟨#[110, 115, 58, 112]⟩, .string ⟨#[73, 100]⟩] 9))
              replace HD := hid (HD.out.alloc (.cells #[.string ⟨#[97]⟩, .string ⟨#[120]⟩, .string ⟨#[112, 58, 97]⟩, .string ⟨#[113, 58, 97]⟩, .string ⟨#[112, 58, 120]⟩, .string ⟨#[110, 115]⟩, .string ⟨#[110, 115, 58, 112]⟩, .string ⟨#[73, 100]⟩] 9))
              replace HX := hid (blk_alloc HX.out (.cells #[.string ⟨#[97]⟩, .string ⟨#[120]⟩, .string ⟨#[112, 58, 97]⟩, .string ⟨#[113, 58, 97]⟩, .string ⟨#[112, 58, 120]⟩, .string ⟨#[110, 115]⟩, .string ⟨#[110, 115, 58, 112]⟩, .string ⟨#[73, 100]⟩] 9))
              generalize W.heap.size = tb at *
              generalize W.alloc (.cells #[.string ⟨#[97]⟩, .string ⟨#[120]⟩, .string ⟨#[112, 58, 97]⟩, .string ⟨#[113, 58, 97]⟩, .string ⟨#[112, 58, 120]⟩, .string ⟨#[110, 115]⟩, .string ⟨#[110, 115, 58, 112]⟩, .string ⟨#[73, 100]⟩] 9) = W at *
              refine wpAnyH_take (i := 3) (v := ?_) rfl (by kernel_rfl) (by kernel_rfl) (by kernel_rfl) (fun _ _ _ h => h) (Or.inl ⟨by rfl, ?_⟩) trivial ?_
              rotate_left
              · intro w hSw
                go_simp
                try (with_reducible rfl)
              try simp only [Act.put, List.setIfInBounds_toArray, List.set_cons_zero, List.set_cons_succ]
              refine wpAnyH_ready (rs := [4, 6]) (by kernel_rfl) (by simp) (AllReadyH.cons rfl (fun K hK => ?_) (AllReadyH.cons rfl (fun K hK => ?_) AllReadyH.nil))
              · obtain ⟨tA, hcA, htA⟩ := tabA_at _ tb x hx HT.out
                go_simp
                refine hK.out _ _ trivial (fun _ => ?_)
                clear hK K
                try simp only [Act.put, List.setIfInBounds_toArray, List.set_cons_zero, List.set_cons_succ]
                clear hcA
                refine wpAnyH_ready (rs := [6]) (by kernel_rfl) (by simp) (AllReadyH.cons rfl (fun K hK => ?_) AllReadyH.nil)
                · go_simp
                  refine (cText ⟨#[97, 98, 60, 38, 34, 62, 32, 49]⟩ 4 w0 a len cap b _ (by omega) (by omega) (by decide) (by decide) hlen HR.out HD.out.cur).mono ?_
                  rintro e W3 ⟨tC, rfl, htC, hC, hG⟩
                  replace HT := hid ((hG.block tb (lt_of_heap HT.out) (fun e => HTB.out (Option.some.inj e))).trans HT.out)
                  replace HX := hid ((hG.block bx (lt_of_heap HX.out) (fun e => by have := HXB.out.1; have := HD.out.lt; have := Option.some.inj e; omega)).trans HX.out)
                  replace HD := hid (HD.out.draw hC hG)
                  clear hC hG
                  go_wp2_with fail
                  refine hK.out _ _ trivial (fun _ => ?_)
                  clear hK K
                  try simp only [Act.put, List.setIfInBounds_toArray, List.set_cons_zero, List.set_cons_succ]
                  generalize W3 = W at *
                  refine wpAnyH_take (i := 7) (v := ?_) rfl (by kernel_rfl) (by kernel_rfl) (by kernel_rfl) (fun _ _ _ h => h) (Or.inl ⟨by rfl, ?_⟩) trivial ?_
                  rotate_left
                  · intro w hSw
                    go_simp
                    try (with_reducible rfl)
                  try simp only [Act.put, List.setIfInBounds_toArray, List.set_cons_zero, List.set_cons_succ]
                  refine wpAnyH_ready (rs := [9]) (by kernel_rfl) (by simp) (AllReadyH.cons rfl (fun K hK => ?_) AllReadyH.nil)
                  · obtain ⟨⟨e0, e1⟩, f0, f1⟩ := box2e HX.out
                    go_simp
                    refine hK.out _ _ trivial (fun _ => ?_)
                    clear hK K
                    try simp only [Act.put, List.setIfInBounds_toArray, List.set_cons_zero, List.set_cons_succ]
                    refine wpAnyH_done (by kernel_rfl) ?_ _
                    go_wp2_with fail
                    go_meet
                    exact ⟨bx, tA, tC, rfl, ⟨box_set2 HX.out, HXB.out, htA, Nat.le_of_lt htC, (HD.out.set HXB.out.1 HXB.out.2 0 _).set HXB.out.1 HXB.out.2 1 _⟩⟩
              · go_simp
                refine (cText ⟨#[97, 98, 60, 38, 34, 62, 32, 49]⟩ 4 w0 a len cap b _ (by omega) (by omega) (by decide) (by decide) hlen HR.out HD.out.cur).mono ?_
                rintro e W3 ⟨tC, rfl, htC, hC, hG⟩
                replace HT := hid ((hG.block tb (lt_of_heap HT.out) (fun e => HTB.out (Option.some.inj e))).trans HT.out)
                replace HX := hid ((hG.block bx (lt_of_heap HX.out) (fun e => by have := HXB.out.1; have := HD.out.lt; have := Option.some.inj e; omega)).trans HX.out)
                replace HD := hid (HD.out.draw hC hG)
                clear hC hG
                go_wp2_with fail
                refine hK.out _ _ trivial (fun _ => ?_)
                clear hK K
                try simp only [Act.put, List.setIfInBounds_toArray, List.set_cons_zero, List.set_cons_succ]
                generalize W3 = W at *
                refine wpAnyH_ready (rs := [4]) (by kernel_rfl) (by simp) (AllReadyH.cons rfl (fun K hK => ?_) AllReadyH.nil)
                · obtain ⟨tA, hcA, htA⟩ := tabA_at _ tb x hx HT.out
                  go_simp
                  refine hK.out _ _ trivial (fun _ => ?_)
                  clear hK K
                  try simp only [Act.put, List.setIfInBounds_toArray, List.set_cons_zero, List.set_cons_succ]
                  clear hcA
                  refine wpAnyH_take (i := 7) (v := ?_) rfl (by kernel_rfl) (by kernel_rfl) (by kernel_rfl) (fun _ _ _ h => h) (Or.inl ⟨by rfl, ?_⟩) trivial ?_
                  rotate_left
                  · intro w hSw
                    go_simp
                    try (with_reducible rfl)
                  try simp only [Act.put, List.setIfInBounds_toArray, List.set_cons_zero, List.set_cons_succ]
                  refine wpAnyH_ready (rs := [9]) (by kernel_rfl) (by simp) (AllReadyH.cons rfl (fun K hK => ?_) AllReadyH.nil)
                  · obtain ⟨⟨e0, e1⟩, f0, f1⟩ := box2e HX.out
                    go_simp
                    refine hK.out _ _ trivial (fun _ => ?_)
                    clear hK K
                    try simp only [Act.put, List.setIfInBounds_toArray, List.set_cons_zero, List.set_cons_succ]
                    refine wpAnyH_done (by kernel_rfl) ?_ _
                    go_wp2_with fail
                    go_meet
                    exact ⟨bx, tA, tC, rfl, ⟨box_set2 HX.out, HXB.out, htA, Nat.le_of_lt htC, (HD.out.set HXB.out.1 HXB.out.2 0 _).set HXB.out.1 HXB.out.2 1 _⟩⟩
            · go_simp
              refine (cText ⟨#[97, 98, 60, 38, 34, 62, 32, 49]⟩ 4 w0 a len cap b _ (by omega) (by omega) (by decide) (by decide) hlen HR.out HD.out.cur).mono ?_
              rintro e W3 ⟨tC, rfl, htC, hC, hG⟩
              replace HX := hid ((hG.block bx (lt_of_heap HX.out) (fun e => by have := HXB.out.1; have := HD.out.lt; have := Option.some.inj e; omega)).trans HX.out)
              replace HD := hid (HD.out.draw hC hG)
              clear hC hG
              go_wp2_with fail
              refine hK.out _ _ trivial (fun _ => ?_)
              clear hK K
              try simp only [Act.put, List.setIfInBounds_toArray, List.set_cons_zero, List.set_cons_succ]
              generalize W3 = W at *
              refine wpAnyH_ready (rs := [0]) (by kernel_rfl) (by simp) (AllReadyH.cons rfl (fun K hK => ?_) AllReadyH.nil)
              · have HTB := hid (show ¬ W.heap.size = b by have := HD.out.gr.size; have := HD.out.lt; omega)
                go_simp
                refine hK.out _ _ trivial (fun _ => ?_)
                clear hK K
                try simp only [Act.put, List.setIfInBounds_toArray, List.set_cons_zero, List.set_cons_succ]
                have HT := hid (heap_alloc_new W (.cells #[.string ⟨#[97]⟩, .string ⟨#[120]⟩, .string ⟨#[112, 58, 97]⟩, .string ⟨#[113, 58, 97]⟩, .string ⟨#[112, 58, 120]⟩, .string ⟨#[110, 115]⟩, .string ⟨#[110, 115, 58, 112]⟩, .string ⟨#[73, 100]⟩] 9))
                replace HD := hid (HD.out.alloc (.cells #[.string ⟨#[97]⟩, .string ⟨#[120]⟩, .string ⟨#[112, 58, 97]⟩, .string ⟨#[113, 58, 97]⟩, .string ⟨#[112, 58, 120]⟩, .string ⟨#[110, 115]⟩, .string ⟨#[110, 115, 58, 112]⟩, .string ⟨#[73, 100]⟩] 9))
                replace HX := hid (blk_alloc HX.out (.cells #[.string ⟨#[97]⟩, .string ⟨#[120]⟩, .string ⟨#[112, 58, 97]⟩, .string ⟨#[113, 58, 97]⟩, .string ⟨#[112, 58, 120]⟩, .string ⟨#[110, 115]⟩, .string ⟨#[110, 115, 58, 112]⟩, .string ⟨#[73, 100]⟩] 9))
                generalize W.heap.size = tb at *
                generalize W.alloc (.cells #[.string ⟨#[97]⟩, .string ⟨#[120]⟩, .string ⟨#[112, 58, 97]⟩, .string ⟨#[113, 58, 97]⟩, .string ⟨#[112, 58, 120]⟩, .string ⟨#[110, 115]⟩, .string ⟨#[110, 115, 58, 112]⟩, .string ⟨#[73, 100]⟩] 9) = W at *
                refine wpAnyH_take (i := 3) (v := ?_) rfl (by kernel_rfl) (by kernel_rfl) (by kernel_rfl) (fun _ _ _ h => h) (Or.inl ⟨by rfl, ?_⟩) trivial ?_
                rotate_left
                · intro w hSw
                  go_simp
                  try (with_reducible rfl)
                try simp only [Act.put, List.setIfInBounds_toArray, List.set_cons_zero, List.set_cons_succ]
                refine wpAnyH_ready (rs := [4]) (by kernel_rfl) (by simp) (AllReadyH.cons rfl (fun K hK => ?_) AllReadyH.nil)
                · obtain ⟨tA, hcA, htA⟩ := tabA_at _ tb x hx HT.out
                  go_simp
                  refine hK.out _ _ trivial (fun _ => ?_)
                  clear hK K
                  try simp only [Act.put, List.setIfInBounds_toArray, List.set_cons_zero, List.set_cons_succ]
                  clear hcA
                  refine wpAnyH_take (i := 7) (v := ?_) rfl (by kernel_rfl) (by kernel_rfl) (by kernel_rfl) (fun _ _ _ h => h) (Or.inl ⟨by rfl, ?_⟩) trivial ?_
                  rotate_left
                  · intro w hSw
                    go_simp
                    try (with_reducible rfl)
                  try simp only [Act.put, List.setIfInBounds_toArray, List.set_cons_zero, List.set_cons_succ]
                  refine wpAnyH_ready (rs := [9]) (by kernel_rfl) (by simp) (AllReadyH.cons rfl (fun K hK => ?_) AllReadyH.nil)
                  · obtain ⟨⟨e0, e1⟩, f0, f1⟩ := box2e HX.out
                    go_simp
                    refine hK.out _ _ trivial (fun _ => ?_)
                    clear hK K
                    try simp only [Act.put, List.setIfInBounds_toArray, List.set_cons_zero, List.set_cons_succ]
                    refine wpAnyH_done (by kernel_rfl) ?_ _
                    go_wp2_with fail
                    go_meet
                    exact ⟨bx, tA, tC, rfl, ⟨box_set2 HX.out, HXB.out, htA, Nat.le_of_lt htC, (HD.out.set HXB.out.1 HXB.out.2 0 _).set HXB.out.1 HXB.out.2 1 _⟩⟩
        · have HXB := hid (show w.heap.size ≤ W.heap.size ∧ ¬ v.ownBlock = some W.heap.size from ⟨HD.out.gr.size, fun e => by have := (HD.out.own.lt _ e).2; omega⟩)
          go_simp
          refine hK.out _ _ trivial (fun _ => ?_)
          clear hK K
          try simp only [Act.put, List.setIfInBounds_toArray, List.set_cons_zero, List.set_cons_succ]
          have HX := hid (heap_alloc_new W (.cells #[.string ⟨#[]⟩, .string ⟨#[]⟩] 114))
          replace HD := hid (HD.out.alloc (.cells #[.string ⟨#[]⟩, .string ⟨#[]⟩] 114))
          generalize W.heap.size = bx at *
          generalize W.alloc (.cells #[.string ⟨#[]⟩, .string ⟨#[]⟩] 114) = W at *
          refine wpAnyH_ready (rs := [0, 2]) (by kernel_rfl) (by simp) (AllReadyH.cons rfl (fun K hK => ?_) (AllReadyH.cons rfl (fun K hK => ?_) AllReadyH.nil))
          · have HTB := hid (show ¬ W.heap.size = b by have := HD.out.gr.size; have := HD.out.lt; omega)
            go_simp
            refine hK.out _ _ trivial (fun _ => ?_)
            clear hK K
            try simp only [Act.put, List.setIfInBounds_toArray, List.set_cons_zero, List.set_cons_succ]
            have HT := hid (heap_alloc_new W (.cells #[.string ⟨#[97]⟩, .string ⟨#[120]⟩, .string ⟨#[112, 58, 97]⟩, .string ⟨#[113, 58, 97]⟩, .string ⟨#[112, 58, 120]⟩, .string ⟨#[110, 115]⟩, .string ⟨#[110, 115, 58, 112]⟩, .string ⟨#[73, 100]⟩] 9))
            replace HD := hid (HD.out.alloc (.cells #[.string ⟨#[97]⟩, .string ⟨#[120]⟩, .string ⟨#[112, 58, 97]⟩, .string ⟨#[113, 58, 97]⟩, .string ⟨#[112, 58, 120]⟩, .string ⟨#[110, 115]⟩, .string ⟨#[110, 115, 58, 112]⟩, .string ⟨#[73, 100]⟩] 9))
            replace HX := hid (blk_alloc HX.out (.cells #[.string ⟨#[97]⟩, .string ⟨#[120]⟩, .string ⟨#[112, 58, 97]⟩, .string ⟨#[113, 58, 97]⟩, .string ⟨#[112, 58, 120]⟩, .string ⟨#[110, 115]⟩, .string ⟨#[110, 115, 58, 112]⟩, .string ⟨#[73, 100]⟩] 9))
            generalize W.heap.size = tb at *
            generalize W.alloc (.cells #[.string ⟨#[97]⟩, .string ⟨#[120]⟩, .string ⟨#[112, 58, 97]⟩, .string ⟨#[113, 58, 97]⟩, .string ⟨#[112, 58, 120]⟩, .string ⟨#[110, 115]⟩, .string ⟨#[110, 115, 58, 112]⟩, .string ⟨#[73, 100]⟩] 9) = W at *
            refine wpAnyH_ready (rs := [2]) (by kernel_rfl) (by simp) (AllReadyH.cons rfl (fun K hK => ?_) AllReadyH.nil)
            · go_simp
              refine (cBelow 8 w0 a len cap b _ hlen HR.out HD.out.cur (by omega) (by omega)).mono ?_
              rintro e W2 ⟨x, rfl, hx, hC, hG⟩
              replace HT := hid ((hG.block tb (lt_of_heap HT.out) (fun e => HTB.out (Option.some.inj e))).trans HT.out)
              replace HX := hid ((hG.block bx (lt_of_heap HX.out) (fun e => by have := HXB.out.1; have := HD.out.lt; have := Option.some.inj e; omega)).trans HX.out)
              replace HD := hid (HD.out.draw hC hG)
              have hx8 : (x : Int) < 8 := by omega
              clear hC hG
              go_wp2_with fail
              refine hK.out _ _ trivial (fun _ => ?_)
              clear hK K
              try simp only [Act.put, List.setIfInBounds_toArray, List.set_cons_zero, List.set_cons_succ]
              generalize W2 = W at *
              refine wpAnyH_take (i := 3) (v := ?_) rfl (by kernel_rfl) (by kernel_rfl) (by kernel_rfl) (fun _ _ _ h => h) (Or.inl ⟨by rfl, ?_⟩) trivial ?_
              rotate_left
              · intro w hSw
                go_simp
                try (with_reducible rfl)
              try simp only [Act.put, List.setIfInBounds_toArray, List.set_cons_zero, List.set_cons_succ]
              refine wpAnyH_ready (rs := [4, 6]) (by kernel_rfl) (by simp) (AllReadyH.cons rfl (fun K hK => ?_) (AllReadyH.cons rfl (fun K hK => ?_) AllReadyH.nil))
              · obtain ⟨tA, hcA, htA⟩ := tabA_at _ tb x hx HT.out
                go_simp
                refine hK.out _ _ trivial (fun _ => ?_)
                clear hK K
                try simp only [Act.put, List.setIfInBounds_toArray, List.set_cons_zero, List.set_cons_succ]
                clear hcA
                refine wpAnyH_ready (rs := [6]) (by kernel_rfl) (by simp) (AllReadyH.cons rfl (fun K hK => ?_) AllReadyH.nil)
                · go_simp
                  refine (cText ⟨#[97, 98, 60, 38, 34, 62, 32, 49]⟩ 4 w0 a len cap b _ (by omega) (by omega) (by decide) (by decide) hlen HR.out HD.out.cur).mono ?_
                  rintro e W3 ⟨tC, rfl, htC, hC, hG⟩
                  replace HT := hid ((hG.block tb (lt_of_heap HT.out) (fun e => HTB.out (Option.some.inj e))).trans HT.out)
                  replace HX := hid ((hG.block bx (lt_of_heap HX.out) (fun e => by have := HXB.out.1; have := HD.out.lt; have := Option.some.inj e; omega)).trans HX.out)
                  replace HD := hid (HD.out.draw hC hG)
                  clear hC hG
                  go_wp2_with fail
                  refine hK.out _ _ trivial (fun _ => ?_)
                  clear hK K
                  try simp only [Act.put, List.setIfInBounds_toArray, List.set_cons_zero, List.set_cons_succ]
                  generalize W3 = W at *
                  refine wpAnyH_take (i := 7) (v := ?_) rfl (by kernel_rfl) (by kernel_rfl) (by kernel_rfl) (fun _ _ _ h => h) (Or.inl ⟨by rfl, ?_⟩) trivial ?_
                  rotate_left
                  · intro w hSw
                    go_simp
                    try (with_reducible rfl)
                  try simp only [Act.put, List.setIfInBounds_toArray, List.set_cons_zero, List.set_cons_succ]
                  refine wpAnyH_ready (rs := [9]) (by kernel_rfl) (by simp) (AllReadyH.cons rfl (fun K hK => ?_) AllReadyH.nil)
                  · obtain ⟨⟨e0, e1⟩, f0, f1⟩ := box2e HX.out
                    go_simp
                    refine hK.out _ _ trivial (fun _ => ?_)
                    clear hK K
                    try simp only [Act.put, List.setIfInBounds_toArray, List.set_cons_zero, List.set_cons_succ]
                    refine wpAnyH_done (by kernel_rfl) ?_ _
                    go_wp2_with fail
                    go_meet
                    exact ⟨bx, tA, tC, rfl, ⟨box_set2 HX.out, HXB.out, htA, Nat.le_of_lt htC, (HD.out.set HXB.out.1 HXB.out.2 0 _).set HXB.out.1 HXB.out.2 1 _⟩⟩
              · go_simp
                refine (cText ⟨#[97, 98, 60, 38, 34, 62, 32, 49]⟩ 4 w0 a len cap b _ (by omega) (by omega) (by decide) (by decide) hlen HR.out HD.out.cur).mono ?_
                rintro e W3 ⟨tC, rfl, htC, hC, hG⟩
                replace HT := hid ((hG.block tb (lt_of_heap HT.out) (fun e => HTB.out (Option.some.inj e))).trans HT.out)
                replace HX := hid ((hG.block bx (lt_of_heap HX.out) (fun e => by have := HXB.out.1; have := HD.out.lt; have := Option.some.inj e; omega)).trans HX.out)
                replace HD := hid (HD.out.draw hC hG)
                clear hC hG
                go_wp2_with fail
                refine hK.out _ _ trivial (fun _ => ?_)
                clear hK K
                try simp only [Act.put, List.setIfInBounds_toArray, List.set_cons_zero, List.set_cons_succ]
                generalize W3 = W at *
                refine wpAnyH_ready (rs := [4]) (by kernel_rfl) (by simp) (AllReadyH.cons rfl (fun K hK => ?_) AllReadyH.nil)
                · obtain ⟨tA, hcA, htA⟩ := tabA_at _ tb x hx HT.out
                  go_simp
                  refine hK.out _ _ trivial (fun _ => ?_)
                  clear hK K
                  try simp only [Act.put, List.setIfInBounds_toArray, List.set_cons_zero, List.set_cons_succ]
                  clear hcA
                  refine wpAnyH_take (i := 7) (v := ?_) rfl (by kernel_rfl) (by kernel_rfl) (by kernel_rfl) (fun _ _ _ h => h) (Or.inl ⟨by rfl, ?_⟩) trivial ?_
                  rotate_left
                  · intro w hSw
                    go_simp
                    try (with_reducible rfl)
                  try simp only [Act.put, List.setIfInBounds_toArray, List.set_cons_zero, List.set_cons_succ]
                  refine wpAnyH_ready (rs := [9]) (by kernel_rfl) (by simp) (AllReadyH.cons rfl (fun K hK => ?_) AllReadyH.nil)
                  · obtain ⟨⟨e0, e1⟩, f0, f1⟩ := box2e HX.out
                    go_simp
                    refine hK.out _ _ trivial (fun _ => ?_)
                    clear hK K
                    try simp only [Act.put, List.setIfInBounds_toArray, List.set_cons_zero, List.set_cons_succ]
                    refine wpAnyH_done (by kernel_rfl) ?_ _
                    go_wp2_with fail
                    go_meet
                    exact ⟨bx, tA, tC, rfl, ⟨box_set2 HX.out, HXB.out, htA, Nat.le_of_lt htC, (HD.out.set HXB.out.1 HXB.out.2 0 _).set HXB.out.1 HXB.out.2 1 _⟩⟩
          · go_simp
            refine (cBelow 8 w0 a len cap b _ hlen HR.out HD.out.cur (by omega) (by omega)).mono ?_
            rintro e W2 ⟨x, rfl, hx, hC, hG⟩
            replace HX := hid ((hG.block bx (lt_of_heap HX.out) (fun e => by have := HXB.out.1; have := HD.out.lt; have := Option.some.inj e; omega)).trans HX.out)
            replace HD := hid (HD.out.draw hC hG)
            have hx8 : (x : Int) < 8 := by omega
            clear hC hG
            go_wp2_with fail
            refine hK.out _ _ trivial (fun _ => ?_)
            clear hK K
            try simp only [Act.put, List.setIfInBounds_toArray, List.set_cons_zero, List.set_cons_succ]
            generalize W2 = W at *
            refine wpAnyH_ready (rs := [0, 6]) (by kernel_rfl) (by simp) (AllReadyH.cons rfl (fun K hK => ?_) (AllReadyH.cons rfl (fun K hK => ?_) AllReadyH.nil))
            · have HTB := hid (show ¬ W.heap.size = b by have := HD.out.gr.size; have := HD.out.lt; omega)
              go_simp
              refine hK.out _ _ trivial (fun _ => ?_)
              clear hK K
              try simp only [Act.put, List.setIfInBounds_toArray, List.set_cons_zero, List.set_cons_succ]
              have HT := hid (heap_alloc_new W (.cells #[.string ⟨#[97]⟩, .string ⟨#[120]⟩, .string ⟨#[112, 58, 97]⟩, .string ⟨#[113, 58, 97]⟩, .string ⟨#[112, 58, 120]⟩, .string ⟨#[110, 115]⟩, .string ⟨#[110, 115, 58, 112]⟩, .string ⟨#[73, 100]⟩] 9))
              replace HD := hid (HD.out.alloc (.cells #[.string ⟨#[97]⟩, .string ⟨#[120]⟩, .string ⟨#[112, 58, 97]⟩, .string ⟨#[113, 58, 97]⟩, .string ⟨#[112, 58, 120]⟩, .string ⟨#[110, 115]⟩, .string ⟨#[110, 115, 58, 112]⟩, .string ⟨#[73, 100]⟩] 9))
              replace HX := hid (blk_alloc HX.out (.cells #[.string ⟨#[97]⟩, .string ⟨#[120]⟩, .string ⟨#[112, 58, 97]⟩, .string ⟨#[113, 58, 97]⟩, .string ⟨#[112, 58, 120]⟩, .string ⟨#[110, 115]⟩, .string ⟨#[110, 115, 58, 112]⟩, .string ⟨#[73, 100]⟩] 9))
              generalize W.heap.size = tb at *
              generalize W.alloc (.cells #[.string ⟨#[97]⟩, .string ⟨#[120]⟩, .string ⟨#[112, 58, 97]⟩, .string ⟨#[113, 58, 97]⟩, .string ⟨#[112, 58, 120]⟩, .string ⟨#[110, 115]⟩, .string ⟨#[110, 115, 58, 112]⟩, .string ⟨#[73, 100]⟩] 9) = W at *
              refine wpAnyH_take (i := 3) (v := ?_) rfl (by kernel_rfl) (by kernel_rfl) (by kernel_rfl) (fun _ _ _ h => h) (Or.inl ⟨by rfl, ?_⟩) trivial ?_
              rotate_left
              · intro w hSw
                go_simp
                try (with_reducible rfl)
              try simp only [Act.put, List.setIfInBounds_toArray, List.set_cons_zero, List.set_cons_succ]
              refine wpAnyH_ready (rs := [4, 6]) (by kernel_rfl) (by simp) (AllReadyH.cons rfl (fun K hK => ?_) (AllReadyH.cons rfl (fun K hK => ?_) AllReadyH.nil))
              · obtain ⟨tA, hcA, htA⟩ := tabA_at _ tb x hx HT.out
                go_simp
                refine hK.out _ _ trivial (fun _ => ?_)
                clear hK K
                try simp only [Act.put, List.setIfInBounds_toArray, List.set_cons_zero, List.set_cons_succ]
                clear hcA
                refine wpAnyH_ready (rs := [6]) (by kernel_rfl) (by simp) (AllReadyH.cons rfl (fun K hK => ?_) AllReadyH.nil)
                · go_simp
                  refine (cText ⟨#[97, 98, 60, 38, 34, 62, 32, 49]⟩ 4 w0 a len cap b _ (by omega) (by omega) (by decide) (by decide) hlen HR.out HD.out.cur).mono ?_
                  rintro e W3 ⟨tC, rfl, htC, hC, hG⟩
                  replace HT := hid ((hG.block tb (lt_of_heap HT.out) (fun e => HTB.out (Option.some.inj e))).trans HT.out)
                  replace HX := hid ((hG.block bx (lt_of_heap HX.out) (fun e => by have := HXB.out.1; have := HD.out.lt; have := Option.some.inj e; omega)).trans HX.out)
                  replace HD := hid (HD.out.draw hC hG)
                  clear hC hG
                  go_wp2_with fail
                  refine hK.out _ _ trivial (fun _ => ?_)
                  clear hK K
                  try simp only [Act.put, List.setIfInBounds_toArray, List.set_cons_zero, List.set_cons_succ]
                  generalize W3 = W at *
                  refine wpAnyH_take (i := 7) (v := ?_) rfl (by kernel_rfl) (by kernel_rfl) (by kernel_rfl) (fun _ _ _ h => h) (Or.inl ⟨by rfl, ?_⟩) trivial ?_
                  rotate_left
                  · intro w hSw
                    go_simp
                    try (with_reducible rfl)
                  try simp only [Act.put, List.setIfInBounds_toArray, List.set_cons_zero, List.set_cons_succ]
                  refine wpAnyH_ready (rs := [9]) (by kernel_rfl) (by simp) (AllReadyH.cons rfl (fun K hK => ?_) AllReadyH.nil)
                  · obtain ⟨⟨e0, e1⟩, f0, f1⟩ := box2e HX.out
                    go_simp
                    refine hK.out _ _ trivial (fun _ => ?_)
                    clear hK K
                    try simp only [Act.put, List.setIfInBounds_toArray, List.set_cons_zero, List.set_cons_succ]
                    refine wpAnyH_done (by kernel_rfl) ?_ _
                    go_wp2_with fail
                    go_meet
                    exact ⟨bx, tA, tC, rfl, ⟨box_set2 HX.out, HXB.out, htA, Nat.le_of_lt htC, (HD.out.set HXB.out.1 HXB.out.2 0 _).set HXB.out.1 HXB.out.2 1 _⟩⟩
              · go_simp
                refine (cText ⟨#[97, 98, 60, 38, 34, 62, 32, 49]⟩ 4 w0 a len cap b _ (by omega) (by omega) (by decide) (by decide) hlen HR.out HD.out.cur).mono ?_
                rintro e W3 ⟨tC, rfl, htC, hC, hG⟩
                replace HT := hid ((hG.block tb (lt_of_heap HT.out) (fun e => HTB.out (Option.some.inj e))).trans HT.out)
                replace HX := hid ((hG.block bx (lt_of_heap HX.out) (fun e => by have := HXB.out.1; have := HD.out.lt; have := Option.some.inj e; omega)).trans HX.out)
                replace HD := hid (HD.out.draw hC hG)
                clear hC hG
                go_wp2_with fail
                refine hK.out _ _ trivial (fun _ => ?_)
                clear hK K
                try simp only [Act.put, List.setIfInBounds_toArray, List.set_cons_zero, List.set_cons_succ]
                generalize W3 = W at *
                refine wpAnyH_ready (rs := [4]) (by kernel_rfl) (by simp) (AllReadyH.cons rfl (fun K hK => ?_) AllReadyH.nil)
                · obtain ⟨tA, hcA, htA⟩ := tabA_at _ tb x hx HT.out
                  go_simp
                  refine hK.out _ _ trivial (fun _ => ?_)
                  clear hK K
                  try simp only [Act.put, List.setIfInBounds_toArray, List.set_cons_zero, List.set_cons_succ]
                  clear hcA
                  refine wpAnyH_take (i := 7) (v := ?_) rfl (by kernel_rfl) (by kernel_rfl) (by kernel_rfl) (fun _ _ _ h => h) (Or.inl ⟨by rfl, ?_⟩) trivial ?_
                  rotate_left
                  · intro w hSw
                    go_simp
                    try (with_reducible rfl)
                  try simp only [Act.put, List.setIfInBounds_toArray, List.set_cons_zero, List.set_cons_succ]
                  refine wpAnyH_ready (rs := [9]) (by kernel_rfl) (by simp) (AllReadyH.cons rfl (fun K hK => ?_) AllReadyH.nil)
                  · obtain ⟨⟨e0, e1⟩, f0, f1⟩ := box2e HX.out
                    go_simp
                    refine hK.out _ _ trivial (fun _ => ?_)
                    clear hK K
                    try simp only [Act.put, List.setIfInBounds_toArray, List.set_cons_zero, List.set_cons_succ]
                    refine wpAnyH_done (by kernel_rfl) ?_ _
                    go_wp2_with fail
                    go_meet
                    exact ⟨bx, tA, tC, rfl, ⟨box_set2 HX.out, HXB.out, htA, Nat.le_of_lt htC, (HD.out.set HXB.out.1 HXB.out.2 0 _).set HXB.out.1 HXB.out.2 1 _⟩⟩
            · go_simp
              refine (cText ⟨#[97, 98, 60, 38, 34, 62, 32, 49]⟩ 4 w0 a len cap b _ (by omega) (by omega) (by decide) (by decide) hlen HR.out HD.out.cur).mono ?_
              rintro e W3 ⟨tC, rfl, htC, hC, hG⟩
              replace HX := hid ((hG.block bx (lt_of_heap HX.out) (fun e => by have := HXB.out.1; have := HD.out.lt; have := Option.some.inj e; omega)).trans HX.out)
              replace HD := hid (HD.out.draw hC hG)
              clear hC hG
              go_wp2_with fail
              refine hK.out _ _ trivial (fun _ => ?_)
              clear hK K
              try simp only [Act.put, List.setIfInBounds_toArray, List.set_cons_zero, List.set_cons_succ]
              generalize W3 = W at *
              refine wpAnyH_ready (rs := [0]) (by kernel_rfl) (by simp) (AllReadyH.cons rfl (fun K hK => ?_) AllReadyH.nil)
              · have HTB := hid (show ¬ W.heap.size = b by have := HD.out.gr.size; have := HD.out.lt; omega)
                go_simp
                refine hK.out _ _ trivial (fun _ => ?_)
                clear hK K
                try simp only [Act.put, List.setIfInBounds_toArray, List.set_cons_zero, List.set_cons_succ]
                have HT := hid (heap_alloc_new W (.cells #[.string ⟨#[97]⟩, .string ⟨#[120]⟩, .string ⟨#[112, 58, 97]⟩, .string ⟨#[113, 58, 97]⟩, .string ⟨#[112, 58, 120]⟩, .string ⟨#[110, 115]⟩, .string ⟨#[110, 115, 58, 112]⟩, .string ⟨#[73, 100]⟩] 9))
                replace HD := hid (HD.out.alloc (.cells #[.string ⟨#[97]⟩, .string ⟨#[120]⟩, .string ⟨#[112, 58, 97]⟩, .string ⟨#[113, 58, 97]⟩, .string ⟨#[112, 58, 120]⟩, .string ⟨#[110, 115]⟩, .string ⟨#[110, 115, 58, 112]⟩, .string ⟨#[73, 100]⟩] 9))
                replace HX := hid (blk_alloc HX.out (.cells #[.string ⟨#[97]⟩, .string ⟨#[120]⟩, .string ⟨#[112, 58, 97]⟩, .string ⟨#[113, 58, 97]⟩, .string ⟨#[112, 58, 120]⟩, .string ⟨#[110, 115]⟩, .string ⟨#[110, 115, 58, 112]⟩, .string ⟨#[73, 100]⟩] 9))
                generalize W.heap.size = tb at *
                generalize W.alloc (.cells #[.string ⟨#[97]⟩, .string ⟨#[120]⟩, .string ⟨#[112, 58, 97]⟩, .string ⟨#[113, 58, 97]⟩, .string ⟨#[112, 58, 120]⟩, .string ⟨#[110, 115]⟩, .string ⟨#[110, 115, 58, 112]⟩, .string ⟨#[73, 100]⟩] 9) = W at *
                refine wpAnyH_take (i := 3) (v := ?_) rfl (by kernel_rfl) (by kernel_rfl) (by kernel_rfl) (fun _ _ _ h => h) (Or.inl ⟨by rfl, ?_⟩) trivial ?_
                rotate_left
                · intro w hSw
                  go_simp
                  try (with_reducible rfl)
                try simp only [Act.put, List.setIfInBounds_toArray, List.set_cons_zero, List.set_cons_succ]
                refine wpAnyH_ready (rs := [4]) (by kernel_rfl) (by simp) (AllReadyH.cons rfl (fun K hK => ?_) AllReadyH.nil)
                · obtain ⟨tA, hcA, htA⟩ := tabA_at _ tb x hx HT.out
                  go_simp
                  refine hK.out _ _ trivial (fun _ => ?_)
                  clear hK K
                  try simp only [Act.put, List.setIfInBounds_toArray, List.set_cons_zero, List.set_cons_succ]
                  clear hcA
                  refine wpAnyH_take (i := 7) (v := ?_) rfl (by kernel_rfl) (by kernel_rfl) (by kernel_rfl) (fun _ _ _ h => h) (Or.inl ⟨by rfl, ?_⟩) trivial ?_
                  rotate_left
                  · intro w hSw
                    go_simp
                    try (with_reducible rfl)
                  try simp only [Act.put, List.setIfInBounds_toArray, List.set_cons_zero, List.set_cons_succ]
                  refine wpAnyH_ready (rs := [9]) (by kernel_rfl) (by simp) (AllReadyH.cons rfl (fun K hK => ?_) AllReadyH.nil)
                  · obtain ⟨⟨e0, e1⟩, f0, f1⟩ := box2e HX.out
                    go_simp
                    refine hK.out _ _ trivial (fun _ => ?_)
                    clear hK K
                    try simp only [Act.put, List.setIfInBounds_toArray, List.set_cons_zero, List.set_cons_succ]
                    refine wpAnyH_done (by kernel_rfl) ?_ _
                    go_wp2_with fail
                    go_meet
                    exact ⟨bx, tA, tC, rfl, ⟨box_set2 HX.out, HXB.out, htA, Nat.le_of_lt htC, (HD.out.set HXB.out.1 HXB.out.2 0 _).set HXB.out.1 HXB.out.2 1 _⟩⟩
      case rest =>
        obtain ⟨bx, tA, tC, rfl, HX⟩ := hcut
        obtain ⟨hm, hxb, hs1, hs2, hd⟩ := HX.out
        have HM := hid hm
        have HXB := hid hxb
        have HDc := hid hd
        clear HX hm hxb hd HD
        obtain ⟨⟨e0, e1⟩, f0, f1⟩ := box2e HM.out
        have HSA := hid hs1
        obtain ⟨B1, hB1⟩ : ∃ B : Bool, (tA.toList == [110, 115]) = B := ⟨_, rfl⟩
        obtain ⟨B2, hB2⟩ : ∃ B : Bool, (tA.toList == [110, 115, 58, 112]) = B := ⟨_, rfl⟩
        obtain ⟨B3, hB3⟩ : ∃ B : Bool, (tA.toList == [73, 100]) = B := ⟨_, rfl⟩
        go_upto_region 8 with fail
        go_cut [46] from 27 to 72 (fun x wv => x = .bool (B1 || B2) ∧ wv = wc)
        case first =>
          cases B1
          · go_wp2_with fail
            go_meet
            exact ⟨rfl, rfl⟩
          · go_wp2_with fail
            go_meet
            exact ⟨rfl, rfl⟩
        case rest =>
          obtain ⟨rfl, rfl⟩ := hcut
          obtain ⟨BB, hBB⟩ : ∃ B, (B1 || B2) = B := ⟨_, rfl⟩
          rw [hBB]
          clear hBB hB1 hB2
          go_upto_if 46 with fail
          go_cut [39] from 27 to 72 (fun x wv => ∃ y : ByteArray, Hid (wv.heap[bx]? = some (.cells #[.string tA, .string y] 114 (0, 0)) ∧ y.size ≤ 5 ∧ DSt w0 a len cap b w wv v l))
          case first =>
            have hbxb : ¬ bx = b := by have := HXB.out.1; have := HDc.out.lt; omega
            cases BB
            · go_wp2_with fail
              go_meet
              exact ⟨tC, HM.out, by omega, HDc.out⟩
            · go_wp2_with fail
              refine (cBelow 3 w0 a len cap b _ hlen HR.out (HDc.out.alloc _).cur (by omega) (by omega)).mono ?_
              rintro e w3 ⟨x, rfl, hx, hC3, hG3⟩
              have HD3 := hid ((HDc.out.alloc _).draw hC3 hG3)
              have HT3 := hid ((hG3.block wc.heap.size (by simp) (fun e => by have h4 : wc.heap.size = b := Option.some.inj e; have := HDc.out.gr.size; have := HDc.out.lt; omega)).trans (heap_alloc_new wc _))
              have HM3 := hid ((hG3.block bx (lt_of_heap (blk_alloc HM.out _)) (fun e => hbxb (Option.some.inj e))).trans (blk_alloc HM.out _))
              obtain ⟨t3, hc3, hs3⟩ := tab3_at w3 wc.heap.size x hx HT3.out
              have hx3 : (x : Int) < 3 := by omega
              clear e0 e1 f0 f1 hC3 hG3
              obtain ⟨⟨e0, e1⟩, f0, f1⟩ := box2e HM3.out
              go_wp2_with fail
              go_meet
              exact ⟨t3, box_set1 HM3.out, by omega, HD3.out.set HXB.out.1 HXB.out.2 1 _⟩
          case rest =>
            obtain ⟨y1, HX⟩ := hcut
            obtain ⟨hm, hs3, hd⟩ := HX.out
            have HM4 := hid hm
            have HD4 := hid hd
            clear HX hm hd HM HDc e0 e1 f0 f1
            obtain ⟨⟨e0, e1⟩, f0, f1⟩ := box2e HM4.out
            go_upto_if 55 with fail
            go_cut [39] from 27 to 72 (fun x wv => ∃ y : ByteArray, Hid (wv.heap[bx]? = some (.cells #[.string tA, .string y] 114 (0, 0)) ∧ y.size ≤ 5 ∧ DSt w0 a len cap b w wv v l))
            case first =>
              have hbxb : ¬ bx = b := by have := HXB.out.1; have := HD4.out.lt; omega
              cases B3
              · go_wp2_with fail
                go_meet
                exact ⟨y1, HM4.out, by omega, HD4.out⟩
              · go_wp2_with fail
                refine (cText ⟨#[48, 49, 50, 51, 52, 53]⟩ 3 w0 a len cap b _ (by omega) (by omega) (by decide) (by decide) hlen HR.out HD4.out.cur).mono ?_
                rintro e w3 ⟨t5, rfl, ht5, hC3, hG3⟩
                have HD3 := hid (HD4.out.draw hC3 hG3)
                have HM3 := hid ((hG3.block bx (lt_of_heap HM4.out) (fun e => hbxb (Option.some.inj e))).trans HM4.out)
                obtain ⟨S5, hS5⟩ : ∃ S, (⟨#[105]⟩ : ByteArray) ++ t5 = S := ⟨_, rfl⟩
                have hz5 : S5.size = 1 + t5.size := by rw [← hS5, ByteArray.size_append]; rfl
                have hov : ¬ 9223372036854775807 < (⟨#[105]⟩ : ByteArray).size + t5.size := by rw [show (⟨#[105]⟩ : ByteArray).size = 1 from rfl]; omega
                have hz6 : S5.size ≤ 5 := by omega
                clear e0 e1 f0 f1 hC3 hG3 hz5
                obtain ⟨⟨e0, e1⟩, f0, f1⟩ := box2e HM3.out
                go_wp2_with fail
                go_meet
                exact ⟨S5, box_set1 HM3.out, hz6, HD3.out.set HXB.out.1 HXB.out.2 1 _⟩
            case rest =>
              obtain ⟨y2, HX⟩ := hcut
              obtain ⟨hm, hs4, hd⟩ := HX.out
              have HM5 := hid hm
              have HD5 := hid hd
              clear HX hm hd HM4 HD4 e0 e1 f0 f1
              obtain ⟨⟨e0, e1⟩, f0, f1⟩ := box2e HM5.out
              obtain ⟨a5, c5, hv5, hoa⟩ := HD5.out.row
              have CV := hid (cValueInS a5 c5 l tA wc hoa.atRow (fun x hx => by have := HD5.out.sz x hx; omega) (by omega) (by have := HSA.out; omega))
              obtain ⟨VF, hVF⟩ : ∃ VF, valF l tA = VF := ⟨_, rfl⟩
              rw [hVF] at CV
              subst hv5
              obtain ⟨L, hL⟩ : ∃ L, l.length = L := ⟨_, rfl⟩
              have HL := hid hL
              rw [hL] at CV hlk HXB HD5 ⊢
              obtain ⟨k1, rfl⟩ : ∃ k1, k = k1 + 1 := ⟨k - 1, by omega⟩
              clear hVF hL hoa
              cases VF with
              | some z =>
                go_wp2_with fail
                refine CV.out.mono ?_
                rintro e w4 ⟨rfl, rfl⟩
                go_wp2_with fail
                go_roundw
                case rel => exact ⟨k1, l, by go_num, by omega, by rw [HL.out]; omega, HD5.out⟩
                case measure => first | (simp [intOf]; omega) | simp [intOf]
              | none =>
                obtain ⟨i0, hi, hz0, hz1, hz2⟩ := info_parts infoAtW
                have HOA := hid (HD5.out.own.alloc (.cells #[.string tA, .string y2] 114))
                have HDA := hid (HD5.out.alloc (.cells #[.string tA, .string y2] 114))
                have HNE := hid (two_cells wc (.string tA) (.string y2) 114)
                have HON := hid (show ∀ u ∈ [Value.string tA, .string y2], u.oneCell' = true by
                  intro u hu
                  simp at hu
                  rcases hu with rfl | rfl <;> rfl)
                have hwb := HD5.out.gr.size
                rw [HL.out] at HOA
                go_wp2_with fail
                refine CV.out.mono ?_
                rintro e w4 ⟨rfl, rfl⟩
                go_wp2_with (at_builtin; refine wpList_append_own _ rfl _ _ 40 rfl w.heap.size 114 i0 _ 2 32 Tryz.underlying40 hi hz0 hz1 hz2 rfl (by decide) _ _ _ rfl HOA.out ⟨w4.heap.size, 0, none⟩ 1 1 [.string tA, .string y2] rfl rfl ?c1 ?c2 ?c3 ?c4 ?c5 ?_)
                case c1 => exact HNE.out
                case c2 => exact HON.out
                case c3 => unfold maxLen; omega
                case c4 => omega
                case c5 => simp; omega
                intro v6 w6 hown6 hgrow6 _
                have HD6 := hid (HDA.out.join (m := [⟨tA, y2⟩]) (fun x hx => by
                  rw [List.mem_singleton] at hx
                  subst hx
                  exact ⟨by show tA.size ≤ 20; have := HSA.out; omega, by show y2.size ≤ 20; omega⟩) (by rw [HL.out]; exact hown6) hgrow6)
                obtain ⟨a6, c6, hv6⟩ := own_len hown6
                subst hv6
                clear hown6 hgrow6
                go_wp2_with fail
                go_roundw
                case rel => exact ⟨k1, l ++ [(⟨tA, y2⟩ : At)], by go_num, by omega, by rw [List.length_append, HL.out]; simp; omega, HD6.out⟩
                case measure => first | (simp [intOf]; omega) | simp [intOf]

end Go.Proofs.YteninofjeidljaaGreat
