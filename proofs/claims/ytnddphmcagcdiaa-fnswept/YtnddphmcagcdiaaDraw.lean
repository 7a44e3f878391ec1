/- Contracts of the drawing cursor: made, a byte, a number below another, a coin. What is drawn is some value in its range; nothing that was there turns but the cursor's own block. -/
import Derived.Test.YtnddphmcagcdiaaRows
import Derived.Test.YtnddphmcagcdiaaKit
import Derived.WalkKit
import Derived.OwnWalk
import Derived.Lib.BufferWrite
import Derived.Deep.QuietTactic
import Derived.BigQuiet
namespace Go.Proofs.Ytnddphmcagcdiaa
open Go.RowKit
set_option linter.unusedVariables false
set_option linter.unusedSimpArgs false

theorem and255 (x : Int) : 0 ≤ bits BinOp.and IntKind.i64 x 255 ∧ bits BinOp.and IntKind.i64 x 255 ≤ 255 := by
  have h : (BitVec.ofInt 64 x &&& BitVec.ofInt 64 255).toNat ≤ 255 := by
    rw [BitVec.toNat_and]
    exact Nat.le_trans Nat.and_le_right (by decide)
  have e : bits BinOp.and IntKind.i64 x 255 = IntKind.i64.wrap ((BitVec.ofInt 64 x &&& BitVec.ofInt 64 255).toNat : Int) := rfl
  rw [e, IntWalk.i64_in _ (by omega)]
  omega

/-- The bytes that a draw is made of can be read in w0. -/
def CodeRow (w0 : World) (a : Option Addr) (len : Nat) : Prop :=
  len = 0 ∨ ∃ cb co, ∃ z : Nat → Int, a = some ⟨cb, co, none⟩ ∧ cb < w0.heap.size ∧ ∀ j, j < len → w0.cell? ⟨cb, co + j, none⟩ = some (.int .u8 (z j))

/-- A cursor in block b, one of the call's own. -/
def Cur (w0 : World) (a : Option Addr) (len cap b : Nat) (w : World) : Prop :=
  w0.heap.size ≤ b ∧ Below w0.heap.size w0 w ∧ ∃ i h : Int, 0 ≤ i ∧ i ≤ len ∧ w.heap[b]? = some (.cells #[.slice a len cap, .int .i64 i, .int .i64 h] 69 (0, 0))

theorem gtrans {w w1 w2 : World} {row : Option Nat} (h : w.grownBy w1 row) (k : w1.grownBy w2 row) : w.grownBy w2 row :=
  ⟨k.os.trans h.os, k.tape.trans h.tape, k.output.trans h.output, Nat.le_trans h.size k.size, fun i hi hr => (k.block i (Nat.lt_of_lt_of_le hi h.size) hr).trans (h.block i hi hr)⟩

theorem g_drewN {w w1 : World} {row : Option Nat} (h : w.grownBy w1 row) (n : Nat) : w.grownBy (w1.drewN n) row := ⟨h.os, h.tape, h.output, h.size, h.block⟩

theorem g_set {w w1 : World} {b : Nat} (h : w.grownBy w1 (some b)) (j : Nat) (v : Value) : w.grownBy (w1.setCell ⟨b, j, none⟩ v) (some b) := gtrans h (Lib.grownBy_setCell w1 b j v)

theorem below_grown {w0 w w1 : World} {B : Nat} {row : Option Nat} (h : Below B w0 w) (hB : B ≤ w.heap.size) (g : w.grownBy w1 row) (hr : ∀ k, row = some k → B ≤ k) : Below B w0 w1 := h.grown g hB hr

theorem Cur.size {w0 : World} {a : Option Addr} {len cap b : Nat} {w : World} (h : Cur w0 a len cap b w) : w0.heap.size ≤ w.heap.size := h.2.1.size

theorem Cur.lt {w0 : World} {a : Option Addr} {len cap b : Nat} {w : World} (h : Cur w0 a len cap b w) : b < w.heap.size := by
  obtain ⟨_, _, i, x, _, _, hh⟩ := h
  exact lt_of_heap hh

theorem Cur.drewN {w0 : World} {a : Option Addr} {len cap b : Nat} {w : World} (h : Cur w0 a len cap b w) (n : Nat) : Cur w0 a len cap b (w.drewN n) := by
  obtain ⟨h1, h2, r⟩ := h
  exact ⟨h1, ⟨h2.os, h2.tape, h2.output, h2.size, h2.block⟩, r⟩

theorem Cur.set1 {w0 : World} {a : Option Addr} {len cap b : Nat} {w : World} (h : Cur w0 a len cap b w) (v : Int) (h0 : 0 ≤ v) (h1 : v ≤ len) : Cur w0 a len cap b (w.setCell ⟨b, 1, none⟩ (.int .i64 v)) := by
  obtain ⟨hb, h2, i, x, _, _, hh⟩ := h
  refine ⟨hb, h2.setCell (p := ⟨b, 1, none⟩) hb _, v, x, h0, h1, ?_⟩
  simp [World.setCell, Array.getElem?_modify, hh]

theorem Cur.set2 {w0 : World} {a : Option Addr} {len cap b : Nat} {w : World} (h : Cur w0 a len cap b w) (v : Int) : Cur w0 a len cap b (w.setCell ⟨b, 2, none⟩ (.int .i64 v)) := by
  obtain ⟨hb, h2, i, x, h0, h1, hh⟩ := h
  refine ⟨hb, h2.setCell (p := ⟨b, 2, none⟩) hb _, i, v, h0, h1, ?_⟩
  simp [World.setCell, Array.getElem?_modify, hh]

/-- What else is written leaves the cursor. -/
theorem Cur.grown {w0 : World} {a : Option Addr} {len cap b : Nat} {w w1 : World} {row : Option Nat} (h : Cur w0 a len cap b w) (g : w.grownBy w1 row) (hne : some b ≠ row) (hr : ∀ k, row = some k → w0.heap.size ≤ k) : Cur w0 a len cap b w1 := by
  have hlt := h.lt
  obtain ⟨hb, h2, i, x, h0, h1, hh⟩ := h
  exact ⟨hb, h2.grown g h2.size hr, i, x, h0, h1, (g.block b hlt hne).trans hh⟩

theorem Cur.alloc {w0 : World} {a : Option Addr} {len cap b : Nat} {w : World} (h : Cur w0 a len cap b w) (o : Obj) : Cur w0 a len cap b (w.alloc o) :=
  h.grown (World.grownBy_alloc w o none) (by simp) (by simp)

/-- A row of bytes of the call's own is no cursor's block. -/
theorem Cur.ne {w0 : World} {a : Option Addr} {len cap b : Nat} {w : World} (h : Cur w0 a len cap b w) {B : Nat} {v : Value} {n : Nat} {xs : List Value} (ho : w.ownsRow B 5 1 v n xs) : v.ownBlock ≠ some b := by
  obtain ⟨hb, h2, i, x, h0, h1, hh⟩ := h
  exact Lib.ownBlock_ne (T := 69) ho hh (by decide)

/-- A draw leaves such a row. -/
theorem own_kept {w0 : World} {a : Option Addr} {len cap b : Nat} {w w1 : World} (h : Cur w0 a len cap b w) {B : Nat} {v : Value} {n : Nat} {xs : List Value} (ho : w.ownsRow B 5 1 v n xs) (g : w.grownBy w1 (some b)) : w1.ownsRow B 5 1 v n xs :=
  ho.kept g (Or.inr (h.ne ho))

set_option maxHeartbeats 2000000 in
theorem cByte (w0 : World) (a : Option Addr) (len cap b : Nat) (w : World) (hlen : len ≤ 4096) (hcr : CodeRow w0 a len) (hC : Cur w0 a len cap b w) :
    Calls Try.prog 45 #[.pointer (some ⟨b, 0, none⟩)] w fun e w' => ∃ x : Int, e = .returned (.int .i64 x) ∧ 0 ≤ x ∧ x ≤ 255 ∧ Cur w0 a len cap b w' ∧ w.grownBy w' (some b) := by
  have HC : Hid (Cur w0 a len cap b w) := hC
  obtain ⟨hb, hB, i, h, hi0, hi1, hh⟩ := hC
  have k0 : w.cell? ⟨b, 0, none⟩ = some (.slice a len cap) := by rw [Lib.cell_of_heap hh]; rfl
  have k1 : w.cell? ⟨b, 1, none⟩ = some (.int .i64 i) := by rw [Lib.cell_of_heap hh]; rfl
  have k2 : w.cell? ⟨b, 2, none⟩ = some (.int .i64 h) := by rw [Lib.cell_of_heap hh]; rfl
  have f1 : w.frozen? ⟨b, 1, none⟩ = false := Lib.frozen_of_heap hh 1
  have f2 : w.frozen? ⟨b, 2, none⟩ = false := Lib.frozen_of_heap hh 2
  have g0 := World.grownBy.refl w (some b)
  have HG : Hid (w.grownBy w (some b)) := g0
  by_cases hlt : i < len
  · obtain ⟨cb, co, z, rfl, hcb, hz⟩ : ∃ cb co, ∃ z : Nat → Int, a = some ⟨cb, co, none⟩ ∧ cb < w0.heap.size ∧ ∀ j, j < len → w0.cell? ⟨cb, co + j, none⟩ = some (.int .u8 (z j)) := by
      rcases hcr with h | h
      · omega
      · exact h
    have hne : ¬ cb = b := by omega
    have hcell : ∀ v, (w.setCell ⟨b, 2, none⟩ v).cell? ⟨cb, co + i.toNat, none⟩ = some (.int .u8 (z i.toNat)) := fun v => by
      rw [World.cell?_setCell_other _ _ _ _ (by simp [hne]), hB.cell (p := ⟨cb, co + i.toNat, none⟩) hcb]
      exact hz _ (by omega)
    clear hcr hz hB hh g0
    have hdl : decide (i < (len : Int)) = true := by simp; omega
    go_enter Try.func45, Try.ntmps45
    go_wp2
    go_quiet (fail)
    go_wp2
    go_quiet (fail)
    go_wp2
    go_quiet (fail)
    go_wp2
    go_ret
    refine ⟨_, rfl, (and255 _).1, (and255 _).2, ?_, ?_⟩
    · repeat (first | exact HC.out | apply Cur.drewN | (refine Cur.set1 ?_ _ (by omega) (by omega)) | apply Cur.set2)
    · repeat (first | exact HG.out | apply g_drewN | apply g_set)
  · have hdl : decide (i < (len : Int)) = false := by simp; omega
    clear hcr hB hh g0
    go_enter Try.func45, Try.ntmps45
    go_wp2
    go_quiet (fail)
    go_wp2
    go_quiet (fail)
    go_wp2
    go_ret
    refine ⟨_, rfl, (and255 _).1, (and255 _).2, ?_, ?_⟩
    · repeat (first | exact HC.out | apply Cur.drewN | apply Cur.set2)
    · repeat (first | exact HG.out | apply g_drewN | apply g_set)

set_option maxHeartbeats 2000000 in
/-- A number below n (n from 1 to 256). -/
theorem cBelow (n : Nat) (w0 : World) (a : Option Addr) (len cap b : Nat) (w : World) (hlen : len ≤ 4096) (hcr : CodeRow w0 a len) (hC : Cur w0 a len cap b w) (hn0 : 1 ≤ n) (hn1 : n ≤ 256) :
    Calls Try.prog 21 #[.pointer (some ⟨b, 0, none⟩), .int .i64 n] w fun e w' => ∃ x : Nat, e = .returned (.int .i64 x) ∧ x < n ∧ Cur w0 a len cap b w' ∧ w.grownBy w' (some b) := by
  have HC : Hid (Cur w0 a len cap b w) := hC
  have HR : Hid (CodeRow w0 a len) := hcr
  clear hC hcr
  have hz : ¬ (n : Int) = 0 := by omega
  go_enter Try.func21, Try.ntmps21
  go_wp2_with (go_at_call 45; refine (cByte w0 a len cap b _ hlen HR.out HC.out).mono ?_; rintro e w1 ⟨x, rfl, h0, h1, hC1, hg1⟩)
  go_ret
  have e : (x % (n : Int)) = ((x.toNat % n : Nat) : Int) := by
    have : x = (x.toNat : Int) := by omega
    rw [this]; simp
  refine ⟨x.toNat % n, ?_, Nat.mod_lt _ (by omega), hC1, hg1⟩
  first | (rw [← e]; rfl) | (rw [← e]; simp)

theorem cOnce (n : Nat) (w0 : World) (a : Option Addr) (len cap b : Nat) (w : World) (hlen : len ≤ 4096) (hcr : CodeRow w0 a len) (hC : Cur w0 a len cap b w) (hn0 : 1 ≤ n) (hn1 : n ≤ 256) :
    Calls Try.prog 44 #[.pointer (some ⟨b, 0, none⟩), .int .i64 n] w fun e w' => ∃ x : Bool, e = .returned (.bool x) ∧ Cur w0 a len cap b w' ∧ w.grownBy w' (some b) := by
  have HC : Hid (Cur w0 a len cap b w) := hC
  have HR : Hid (CodeRow w0 a len) := hcr
  clear hC hcr
  go_enter Try.func44, Try.ntmps44
  go_wp2_with (go_at_call 21; refine (cBelow n w0 a len cap b _ hlen HR.out HC.out hn0 hn1).mono ?_; rintro e w1 ⟨x, rfl, h1, hC1, hg1⟩)
  go_ret
  exact ⟨_, rfl, hC1, hg1⟩

set_option maxHeartbeats 2000000 in
theorem cNew (a : Option Addr) (len cap : Nat) (w : World) (hlen : len ≤ 4096) (hcr : CodeRow w a len) :
    Calls Try.prog 19 #[.slice a len cap] w fun e w' => e = .returned (.pointer (some ⟨w.heap.size, 0, none⟩)) ∧ Cur w a len cap w.heap.size w' := by
  go_enter Try.func19, Try.ntmps19
  go_wp2
  go_loop [3, 4] (fun h i => ∃ (k : Nat) (x : Int), k ≤ len ∧ i = .int .i64 k ∧ h = .int .i64 x) (fun _ i => len - (intOf i).toNat)
  case atStart => exact ⟨0, _, Nat.zero_le _, rfl, rfl⟩
  case round =>
    obtain ⟨k, x, hk, rfl, rfl⟩ := hrel
    by_cases hlt : k < len
    · obtain ⟨cb, co, z, rfl, hcb, hz⟩ : ∃ cb co, ∃ z : Nat → Int, a = some ⟨cb, co, none⟩ ∧ cb < w.heap.size ∧ ∀ j, j < len → w.cell? ⟨cb, co + j, none⟩ = some (.int .u8 (z j)) := by
        rcases hcr with h | h
        · omega
        · exact h
      have hcell := hz k hlt
      clear hz hcr
      go_wp2
      go_round
      case rel => exact ⟨k + 1, _, by omega, by go_num, rfl⟩
      case measure => simp [intOf]; omega
    · go_wp2
      go_ret
      refine ⟨rfl, Nat.le_refl _, (Below.refl _ _).alloc (Nat.le_refl _) _, 0, x, by omega, by omega, ?_⟩
      exact heap_alloc_new _ _

end Go.Proofs.Ytnddphmcagcdiaa
