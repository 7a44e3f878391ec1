/- Contracts of the draws of a text: of given signs, or of whatever bytes; shorter than what was asked. -/
import Derived.Test.YtnddphmcagcdiaaRows
import Derived.Test.YtnddphmcagcdiaaKit
import Derived.Test.YtnddphmcagcdiaaDraw
import Derived.Test.YtnddphmcagcdiaaBend
import Derived.WalkKit
import Derived.OwnWalk
namespace Go.Proofs.Ytnddphmcagcdiaa
open Go.RowKit
set_option linter.unusedVariables false
set_option linter.unusedSimpArgs false

theorem Cur.below {w0 : World} {a : Option Addr} {len cap b : Nat} {w w1 : World} (h : Cur w0 a len cap b w) (k : Below w.heap.size w w1) : Cur w0 a len cap b w1 := by
  have hlt := h.lt
  obtain ⟨hb, h2, i, x, h0, h1, hh⟩ := h
  exact ⟨hb, h2.trans (k.mono h2.size), i, x, h0, h1, (k.block b hlt).trans hh⟩

theorem snoc_byteT (acc : List UInt8) (x : UInt8) : Lib.byteCells acc ++ [.int .u8 x.toNat] = Lib.byteCells (acc ++ [x]) := by simp [Lib.byteCells]

theorem own_snocT {w : World} {B : Nat} {v : Value} {acc : List UInt8} {x : UInt8} (h : w.ownsRow B 5 1 v (acc.length + 1) (Lib.byteCells acc ++ [.int .u8 x.toNat])) : w.ownsRow B 5 1 v (acc ++ [x]).length (Lib.byteCells (acc ++ [x])) := by
  rw [← snoc_byteT, List.length_append]
  exact h

set_option maxHeartbeats 2000000 in
theorem cText (signs : ByteArray) (most : Nat) (w0 : World) (a : Option Addr) (len cap b : Nat) (w : World) (hm0 : 1 ≤ most) (hm1 : most ≤ 256) (hg0 : 1 ≤ signs.size) (hg1 : signs.size ≤ 256) (hlen : len ≤ 4096) (hcr : CodeRow w0 a len) (hC : Cur w0 a len cap b w) :
    Calls Try.prog 43 #[.pointer (some ⟨b, 0, none⟩), .string signs, .int .i64 most] w fun e w' => ∃ t : ByteArray, e = .returned (.string t) ∧ t.size < most ∧ Cur w0 a len cap b w' ∧ w.grownBy w' (some b) := by
  obtain ⟨i0, hi, hz0, hz1, hz2⟩ := info_parts info5d
  have HR : Hid (CodeRow w0 a len) := hcr
  have HC1 : Hid (Cur w0 a len cap b (w.alloc (.cells #[] 5))) := hC.alloc _
  have hw0 : w0.heap.size ≤ w.heap.size := hC.size
  have HO : Hid ((w.alloc (.cells #[] 5)).ownsRow w.heap.size 5 1 (.slice (some ⟨w.heap.size, 0, none⟩) 0 0) 0 []) := World.ownsRow_made w #[] 0 (Nat.le_refl _) (by decide) rfl
  have HG : Hid (w.grownBy (w.alloc (.cells #[] 5)) (some b)) := World.grownBy_alloc w _ _
  clear hC hcr
  go_enter Try.func43, Try.ntmps43
  go_wp2_with fail
  refine (cBelow most w0 a len cap b _ hlen HR.out HC1.out hm0 hm1).mono ?_
  rintro e w2 ⟨x0, rfl, hx0, hC2, hG2⟩
  have O2 := own_kept HC1.out HO.out hG2
  have HC2 : Hid (Cur w0 a len cap b w2) := hC2
  have HG2 : Hid (w.grownBy w2 (some b)) := gtrans HG.out hG2
  have HO2 : Hid (w2.ownsRow w.heap.size 5 1 (.slice (some ⟨w.heap.size, 0, none⟩) 0 0) 0 []) := O2
  clear O2 hC2 hG2 HC1 HG HO
  go_wp2_with fail
  go_loopw [7, 8] (fun v n wr => ∃ (m : Nat) (acc : List UInt8), n = .int .i64 m ∧ acc.length + m < most ∧ wr.ownsRow w.heap.size 5 1 v acc.length (Lib.byteCells acc) ∧ Cur w0 a len cap b wr ∧ w.grownBy wr (some b)) (fun _ n _ => (intOf n).toNat)
  case atStart => exact ⟨x0, [], rfl, by simpa using hx0, HO2.out, HC2.out, HG2.out⟩
  case round =>
    obtain ⟨m, acc, rfl, hm, hown, hCr, hGr⟩ := hrel
    by_cases hmp : 0 < m
    · have hmb : decide ((0 : Int) < (m : Int)) = true := by simp; omega
      have HOr : Hid (wr.ownsRow w.heap.size 5 1 u7 acc.length (Lib.byteCells acc)) := hown
      have HCr : Hid (Cur w0 a len cap b wr) := hCr
      have HGr : Hid (w.grownBy wr (some b)) := hGr
      clear hown hCr hGr
      go_wp2_with fail
      refine (cBelow signs.size w0 a len cap b _ hlen HR.out HCr.out hg0 hg1).mono ?_
      rintro e w3 ⟨y, rfl, hy, hC3, hG3⟩
      have O3 := own_kept HCr.out HOr.out hG3
      have hs3 : w.heap.size ≤ w3.heap.size := Nat.le_trans HGr.out.size hG3.size
      go_wp2_with (at_builtin; refine wpList_append_own _ rfl _ _ 22 rfl w.heap.size 5 i0 (.int .u8 0) 1 1 Try.underlying22 hi hz0 hz1 hz2 rfl (by decide) _ _ _ rfl (O3.alloc _) ⟨w3.heap.size, 0, none⟩ 1 1 [.int .u8 (signs[y].toNat : Int)] rfl rfl (one_cell5 _ _) (ints_one [(signs[y].toNat : Int)]) (by unfold maxLen; omega) (by omega) (by simp; omega) ?_)
      intro v' w4 hown' hgrow _
      have R := own_snocT hown'
      have C4 := (hC3.alloc (.cells #[.int .u8 (signs[y].toNat : Int)] 5)).grown hgrow (fun e => (hC3.ne O3) e.symm) (own_ge (w1 := w4) O3 hw0)
      have G4 := g_row (g_row (gtrans HGr.out hG3) (World.grownBy_alloc w3 (.cells #[.int .u8 (signs[y].toNat : Int)] 5) none) (by simp)) hgrow (own_ge (w1 := w4) O3 (Nat.le_refl _))
      clear hown' hgrow O3 hC3 hG3
      go_wp2
      go_roundw
      case rel => exact ⟨m - 1, acc ++ [signs[y]], by go_num, by simp; omega, R, C4, G4⟩
      case measure => simp [intOf]; omega
    · have hmb : decide ((0 : Int) < (m : Int)) = false := by simp; omega
      have hr := run_str_own (P := Try.prog) (src := 22) (dst := 9) Try.underlying22 Try.underlying5 Try.underlying9 hown
      clear hown
      go_wp2
      go_ret
      exact ⟨_, rfl, by show acc.toArray.size < most; simp; omega, hCr, hGr⟩

theorem byte_of (x : Int) (h0 : 0 ≤ x) (h1 : x ≤ 255) : ((UInt8.ofNat x.toNat).toNat : Int) = x := by
  have : x.toNat < 256 := by omega
  rw [UInt8.toNat_ofNat_of_lt' (by exact this)]
  omega

end Go.Proofs.Ytnddphmcagcdiaa
