/- Rows of numbers, as the exact law of KidsOf compares and marks them. Contracts of the drawing cursor: made, a byte, a number below another, a coin. What is drawn is some value in its range; nothing that was there turns but the cursor's own block. Contracts of the draws of a great number below another; the bytes that a draw is made of. -/
import Derived.Test.YtbiblabmhlgnoaaM11
import Derived.Test.YtbiblabmhlgnoaaM13
import Derived.Test.YtbiblabmhlgnoaaRows
import Derived.Test.YtbiblabmhlgnoaaM1
import Derived.WalkKit
import Derived.OwnWalk
import Derived.Lib.BufferWrite
import Derived.Deep.QuietTactic
import Derived.BigQuiet
import Derived.OpenShut
namespace Go.Proofs.Ytbiblabmhlgnoaa
open Go.RowKit
set_option linter.unusedVariables false
set_option linter.unusedSimpArgs false

/-- Numbers in a row from a on. -/
def IntRow (w : World) (a : Option Addr) (l : List Nat) : Prop := ∀ j (h : j < l.length), ∃ b o, a = some ⟨b, o, none⟩ ∧ b < w.heap.size ∧ w.cell? ⟨b, o + j, none⟩ = some (.int .i64 (l[j] : Int))

theorem IntRow.below {w w' : World} {a : Option Addr} {l : List Nat} (h : IntRow w a l) (hb : Below w.heap.size w w') : IntRow w' a l := by
  intro j hj
  obtain ⟨b, o, ha, hlt, c⟩ := h j hj
  exact ⟨b, o, ha, Nat.lt_of_lt_of_le hlt hb.size, (hb.cell (p := ⟨b, o + j, none⟩) hlt).trans c⟩

/-- A row of numbers of our own. -/
theorem own64 {w : World} {B : Nat} {v : Value} {l : List Nat} (h : w.ownsRow B 2 1 v l.length (intC l)) : ∃ a cap, v = .slice a l.length cap ∧ IntRow w a l := by
  rcases h.2 with ⟨rfl, h0⟩ | ⟨g, cap, cur, rfl, hg, hh, hn, hc, hs, ht⟩
  · have : l = [] := List.eq_nil_of_length_eq_zero h0
    subst this
    exact ⟨none, 0, rfl, fun j hj => absurd hj (Nat.not_lt_zero _)⟩
  · refine ⟨_, _, rfl, fun j hj => ⟨g, 0, rfl, lt_of_heap hh, ?_⟩⟩
    obtain ⟨g', cap', e, _, c⟩ := (row64 ⟨h.1, .inr ⟨g, cap, cur, rfl, hg, hh, hn, hc, hs, ht⟩⟩).2 j hj
    cases e
    rw [Nat.zero_add]
    exact c

theorem own64_rd {w : World} {B n c : Nat} {a : Option Addr} {l : List Nat} (h : w.ownsRow B 2 1 (.slice a n c) n (intC l)) (hn : l.length = n) : IntRow w a l := by
  subst hn
  obtain ⟨a', c', e, hr⟩ := own64 h
  cases e
  exact hr

theorem row64_keep {w w' : World} {B n : Nat} {v : Value} {xs : List Value} {p : Nat → Prop} {e : TypeId} (h : w.ownsRow B e 1 v n xs) (k : KeepB p w w') (hp : ∀ b, p b → b < B) : w'.ownsRow B e 1 v n xs := by
  refine ⟨h.1, ?_⟩
  rcases h.2 with h' | ⟨g, cap, cur, h1, h2, h3, h4⟩
  · exact .inl h'
  · exact .inr ⟨g, cap, cur, h1, h2, (k.block g (lt_of_heap h3) (fun x => by have := hp g x; omega)).trans h3, h4⟩

set_option maxHeartbeats 2000000 in
theorem cEqInt64S (a c : Option Addr) (cap cap2 : Nat) (l : List Nat) (w : World) (hR : IntRow w a l) (hT : IntRow w c l) (hn : l.length ≤ 1048576) :
    Calls Try.prog 27 #[.slice a l.length cap, .slice c l.length cap2] w fun e w' => e = .returned (.bool true) ∧ Below w.heap.size w w' := by
  have HR := hid hR
  have HT := hid hT
  clear hR hT
  obtain ⟨n, hnn⟩ : ∃ n, l.length = n := ⟨_, rfl⟩
  have HN := hid hnn
  rw [hnn] at hn ⊢
  clear hnn
  go_enter Try.func27, Try.ntmps27
  go_wp2
  go_loopw [5] (fun k wr => ∃ i : Nat, k = .int .i64 (i : Int) ∧ i ≤ n ∧ Hid (Below w.heap.size w wr)) (fun k _ => n - (intOf k).toNat)
  case atStart => exact ⟨0, rfl, Nat.zero_le _, Below.refl _ _⟩
  case round =>
    obtain ⟨i, rfl, hi, HB⟩ := hrel
    by_cases hlt : i < n
    · have his : i < l.length := by rw [HN.out]; exact hlt
      have hin : (i : Int) < (n : Int) := by omega
      obtain ⟨b, o, rfl, hb, c1⟩ := HR.out.below HB.out i his
      obtain ⟨b2, o2, rfl, hb', k1⟩ := HT.out.below HB.out i his
      generalize l[i] = x at *
      have hd : ((x : Int) == (x : Int)) = true := by simp
      go_wp2_with fail
      go_quiet (fail)
      go_wp2_with fail
      go_roundw
      case rel => exact ⟨i + 1, by go_num, by omega, below_drewN HB.out _⟩
      case measure => simp [intOf]; omega
    · have hie : i = n := by omega
      subst hie
      go_wp2_with fail
      go_ret
      exact ⟨rfl, HB.out⟩

/-- The marks from k on. -/
def MarksI (cur : Array Value) (n k : Nat) : Prop := ∀ j, j < n → cur[j]? = some (.int .i64 ((k + j : Nat) : Int))

set_option maxHeartbeats 2000000 in
theorem cMarkInt64S (g cap n k : Nat) (cur0 : Array Value) (w : World) (hg : w.heap[g]? = some (.cells cur0 2 (0, 0))) (hs : n ≤ cur0.size) (hk : k + n ≤ 100000000) :
    Calls Try.prog 29 #[.slice (some ⟨g, 0, none⟩) n cap, .int .i64 k] w fun e w' => e = .returned (.int .i64 ((k + n : Nat) : Int)) ∧ (∃ cur, w'.heap[g]? = some (.cells cur 2 (0, 0)) ∧ MarksI cur n k) ∧ w.grownBy w' (some g) := by
  have HG := hid hg
  clear hg
  go_enter Try.func29, Try.ntmps29
  go_wp2
  go_loopw [1, 5] (fun x y wr => ∃ (i : Nat) (cur : Array Value), x = .int .i64 ((k + i : Nat) : Int) ∧ y = .int .i64 (i : Int) ∧ i ≤ n ∧ Hid (wr.heap[g]? = some (.cells cur 2 (0, 0)) ∧ cur.size = cur0.size ∧ MarksI cur i k ∧ w.grownBy wr (some g))) (fun _ y _ => n - (intOf y).toNat)
  case atStart => exact ⟨0, cur0, rfl, rfl, Nat.zero_le _, HG.out, rfl, fun j h => by omega, World.grownBy.refl _ _⟩
  case round =>
    obtain ⟨i, cur, rfl, rfl, hi, HX⟩ := hrel
    obtain ⟨hh, hcs, hm, hgr⟩ := HX.out
    by_cases hlt : i < n
    · have hin : (i : Int) < (n : Int) := by omega
      obtain ⟨ov, k1⟩ : ∃ v, wr.cell? ⟨g, i, none⟩ = some v := by
        rw [Lib.cell_of_heap hh]
        exact ⟨cur[i]'(by omega), Array.getElem?_eq_getElem (by omega)⟩
      have f1 : wr.frozen? ⟨g, i, none⟩ = false := Lib.frozen_of_heap hh _
      have HH2 := hid (show (wr.setCell ⟨g, i, none⟩ (.int .i64 ((k + i : Nat) : Int))).heap[g]? = some (.cells (cur.setIfInBounds i (.int .i64 ((k + i : Nat) : Int))) 2 (0, 0)) by simp [World.setCell, Array.getElem?_modify, hh])
      have HM2 := hid (show MarksI (cur.setIfInBounds i (.int .i64 ((k + i : Nat) : Int))) (i + 1) k from fun j hj => by
        rw [Array.getElem?_setIfInBounds]
        by_cases e : i = j
        · subst e
          rw [if_pos rfl, if_pos (by omega)]
        · rw [if_neg e]
          exact hm j (by omega))
      have HG2 := hid (hgr.trans (Lib.grownBy_setCell wr g i (.int .i64 ((k + i : Nat) : Int))))
      have HC2 := hid (show (cur.setIfInBounds i (.int .i64 ((k + i : Nat) : Int))).size = cur0.size by simp [hcs])
      clear hh hm hgr HX
      obtain ⟨K, hK⟩ : ∃ K : Nat, k + i = K := ⟨_, rfl⟩
      have HK := hid hK
      have hKb : K ≤ 100000000 := by omega
      rw [hK] at HH2 HM2 HG2 HC2 ⊢
      clear hK
      go_wp2_with fail
      go_roundw
      case rel => exact ⟨i + 1, _, by rw [show k + (i + 1) = K + 1 by have := HK.out; omega]; go_num, by go_num, by omega, HH2.out, HC2.out, HM2.out, HG2.out⟩
      case measure => simp [intOf]; omega
    · have hie : i = n := by omega
      subst hie
      have H1 := hid (show ∃ cur, wr.heap[g]? = some (.cells cur 2 (0, 0)) ∧ MarksI cur i k from ⟨cur, hh, hm⟩)
      have H2 := hid hgr
      clear hh hm hgr HX
      obtain ⟨K, hK⟩ : ∃ K : Nat, k + i = K := ⟨_, rfl⟩
      have HK := hid hK
      rw [hK]
      clear hK
      go_wp2_with fail
      go_ret
      exact ⟨by rw [HK.out]; rfl, H1.out, H2.out⟩

set_option maxHeartbeats 2000000 in
theorem cHeldInt64S (a : Option Addr) (cap k : Nat) (l : List Nat) (w : World) (hR : IntRow w a l) (hm : ∀ j (h : j < l.length), l[j] = k + j) (hk : k + l.length ≤ 100000000) :
    Calls Try.prog 30 #[.slice a l.length cap, .int .i64 k] w fun e w' => e = .returned (.int .i64 ((k + l.length : Nat) : Int)) ∧ w' = w := by
  have HR := hid hR
  have HM := hid hm
  clear hR hm
  obtain ⟨n, hnn⟩ : ∃ n, l.length = n := ⟨_, rfl⟩
  have HN := hid hnn
  rw [hnn] at hk ⊢
  clear hnn
  go_enter Try.func30, Try.ntmps30
  go_wp2
  go_loop [1, 5] (fun x y => ∃ i : Nat, x = .int .i64 ((k + i : Nat) : Int) ∧ y = .int .i64 (i : Int) ∧ i ≤ n) (fun _ y => n - (intOf y).toNat)
  case atStart => exact ⟨0, rfl, rfl, Nat.zero_le _⟩
  case round =>
    obtain ⟨i, rfl, rfl, hi⟩ := hrel
    obtain ⟨K, hK⟩ : ∃ K : Nat, k + i = K := ⟨_, rfl⟩
    have HK := hid hK
    have hKb : K ≤ 100000000 := by omega
    by_cases hlt : i < n
    · have his : i < l.length := by rw [HN.out]; exact hlt
      have hin : (i : Int) < (n : Int) := by omega
      obtain ⟨b, o, rfl, hb, c1⟩ := HR.out i his
      rw [HM.out i his, hK] at c1
      rw [hK]
      clear hK
      have hd : ((K : Int) == (K : Int)) = true := by simp
      go_wp2_with fail
      go_round
      case rel => exact ⟨i + 1, by rw [show k + (i + 1) = K + 1 by have := HK.out; omega]; go_num, by go_num, by omega⟩
      case measure => simp [intOf]; omega
    · have hie : i = n := by omega
      subst hie
      rw [hK]
      clear hK
      go_wp2_with fail
      go_ret
      exact ⟨by first | (rw [HK.out]; rfl) | (rw [show ((k : Int) + (i : Int)) = (K : Int) from (by have := HK.out; omega)]; rfl), rfl⟩

/-- The marks from 1 on. -/
def mkI (n : Nat) : List Nat := (List.range n).map fun j => 1 + j

theorem mkI_len (n : Nat) : (mkI n).length = n := by simp [mkI]

theorem mkI_at (n j : Nat) (h : j < (mkI n).length) : (mkI n)[j] = 1 + j := by simp [mkI]

theorem MarksI.row {w : World} {g n : Nat} {cur : Array Value} {T : TypeId} (h : MarksI cur n 1) (hh : w.heap[g]? = some (.cells cur T (0, 0))) : IntRow w (some ⟨g, 0, none⟩) (mkI n) := by
  intro j hj
  refine ⟨g, 0, rfl, lt_of_heap hh, ?_⟩
  rw [Lib.cell_of_heap hh, mkI_at n j hj, Nat.zero_add]
  rw [mkI_len] at hj
  exact h j hj

theorem kidsI_len (ts : List Tk) (x : Int) : (kidsI ts x).length ≤ ts.length := by
  unfold kidsI
  split
  · exact kidsTo_len ts _ _
  · exact Nat.zero_le _

/-- The blocks of a copy: from its own on, and there. -/
theorem Nd.Laid.hasI {ts : List Tk} {g : Nat} {G : Nat → Nat} {cur : Array Value} {w : World} (h : Nd.Laid ts g ts.length G cur w) (hh : w.heap[g]? = some (.cells cur 56 (0, 0))) : ∀ b, (Nd.shL g G ts).Has b → g ≤ b ∧ b < w.heap.size := by
  rintro b (rfl | ⟨j, hj, _, rfl⟩)
  · exact ⟨Nat.le_refl _, lt_of_heap hh⟩
  · obtain ⟨h1, cu, h2, _⟩ := h.row j hj hj
    have h3 := lt_of_heap h2
    exact ⟨by show g ≤ G j; omega, by show G j < w.heap.size; omega⟩

theorem cMarkInt0 (a : Option Addr) (cap k : Nat) (w : World) (hk : k ≤ 100000000) :
    Calls Try.prog 29 #[.slice a 0 cap, .int .i64 k] w fun e w' => e = .returned (.int .i64 k) ∧ w' = w := by
  go_enter Try.func29, Try.ntmps29
  go_wp2
  go_loopw [1, 5] (fun x y wr => x = .int .i64 k ∧ y = .int .i64 0 ∧ wr = w) (fun _ _ _ => 0)
  case atStart => exact ⟨rfl, rfl, rfl⟩
  case round =>
    obtain ⟨rfl, rfl, rfl⟩ := hrel
    go_wp2
    go_ret
    exact ⟨rfl, rfl⟩

end Go.Proofs.Ytbiblabmhlgnoaa

namespace Go.Proofs.Ytbiblabmhlgnoaa
open Go.RowKit
set_option linter.unusedVariables false
set_option linter.unusedSimpArgs false

theorem and255 (x : Int) : 0 ≤ bits BinOp.and IntKind.i64 x 255 ∧ bits BinOp.and IntKind.i64 x 255 ≤ 255 := by
  have h : (BitVec.ofInt 64 x &&& BitVec.ofInt 64 255).toNat ≤ 255 := by
    rw [BitVec.toNat_and]
    exact Nat.le_trans Nat.and_le_right (by decide)
  have e : bits BinOp.and IntKind.i64 x 255 = IntKind.i64.wrap ((BitVec.ofInt 64 x &&& BitVec.ofInt 64 255).toNat : Int) := rfl
  rw [e, IntWalk.i64_in _ (by omega)]
  omega

/-- The bytes that a draw is made of can be read in w0. -/
def CodeRow (w0 : World) (a : Option Addr) (len : Nat) : Prop :=
  len = 0 ∨ ∃ cb co, ∃ z : Nat → Int, a = some ⟨cb, co, none⟩ ∧ cb < w0.heap.size ∧ ∀ j, j < len → w0.cell? ⟨cb, co + j, none⟩ = some (.int .u8 (z j))

/-- A cursor in block b, one of the call's own. -/
def Cur (w0 : World) (a : Option Addr) (len cap b : Nat) (w : World) : Prop :=
  w0.heap.size ≤ b ∧ Below w0.heap.size w0 w ∧ ∃ i h : Int, 0 ≤ i ∧ i ≤ len ∧ w.heap[b]? = some (.cells #[.slice a len cap, .int .i64 i, .int .i64 h] 77 (0, 0))

theorem gtrans {w w1 w2 : World} {row : Option Nat} (h : w.grownBy w1 row) (k : w1.grownBy w2 row) : w.grownBy w2 row :=
  ⟨k.os.trans h.os, k.tape.trans h.tape, k.output.trans h.output, Nat.le_trans h.size k.size, fun i hi hr => (k.block i (Nat.lt_of_lt_of_le hi h.size) hr).trans (h.block i hi hr)⟩

theorem g_drewN {w w1 : World} {row : Option Nat} (h : w.grownBy w1 row) (n : Nat) : w.grownBy (w1.drewN n) row := ⟨h.os, h.tape, h.output, h.size, h.block⟩

theorem g_set {w w1 : World} {b : Nat} (h : w.grownBy w1 (some b)) (j : Nat) (v : Value) : w.grownBy (w1.setCell ⟨b, j, none⟩ v) (some b) := gtrans h (Lib.grownBy_setCell w1 b j v)

theorem below_grown {w0 w w1 : World} {B : Nat} {row : Option Nat} (h : Below B w0 w) (hB : B ≤ w.heap.size) (g : w.grownBy w1 row) (hr : ∀ k, row = some k → B ≤ k) : Below B w0 w1 := h.grown g hB hr

theorem Cur.size {w0 : World} {a : Option Addr} {len cap b : Nat} {w : World} (h : Cur w0 a len cap b w) : w0.heap.size ≤ w.heap.size := h.2.1.size

theorem Cur.lt {w0 : World} {a : Option Addr} {len cap b : Nat} {w : World} (h : Cur w0 a len cap b w) : b < w.heap.size := by
  obtain ⟨_, _, i, x, _, _, hh⟩ := h
  exact lt_of_heap hh

theorem Cur.drewN {w0 : World} {a : Option Addr} {len cap b : Nat} {w : World} (h : Cur w0 a len cap b w) (n : Nat) : Cur w0 a len cap b (w.drewN n) := by
  obtain ⟨h1, h2, r⟩ := h
  exact ⟨h1, ⟨h2.os, h2.tape, h2.output, h2.size, h2.block⟩, r⟩

theorem Cur.set1 {w0 : World} {a : Option Addr} {len cap b : Nat} {w : World} (h : Cur w0 a len cap b w) (v : Int) (h0 : 0 ≤ v) (h1 : v ≤ len) : Cur w0 a len cap b (w.setCell ⟨b, 1, none⟩ (.int .i64 v)) := by
  obtain ⟨hb, h2, i, x, _, _, hh⟩ := h
  refine ⟨hb, h2.setCell (p := ⟨b, 1, none⟩) hb _, v, x, h0, h1, ?_⟩
  simp [World.setCell, Array.getElem?_modify, hh]

theorem Cur.set2 {w0 : World} {a : Option Addr} {len cap b : Nat} {w : World} (h : Cur w0 a len cap b w) (v : Int) : Cur w0 a len cap b (w.setCell ⟨b, 2, none⟩ (.int .i64 v)) := by
  obtain ⟨hb, h2, i, x, h0, h1, hh⟩ := h
  refine ⟨hb, h2.setCell (p := ⟨b, 2, none⟩) hb _, i, v, h0, h1, ?_⟩
  simp [World.setCell, Array.getElem?_modify, hh]

/-- What else is written leaves the cursor. -/
theorem Cur.grown {w0 : World} {a : Option Addr} {len cap b : Nat} {w w1 : World} {row : Option Nat} (h : Cur w0 a len cap b w) (g : w.grownBy w1 row) (hne : some b ≠ row) (hr : ∀ k, row = some k → w0.heap.size ≤ k) : Cur w0 a len cap b w1 := by
  have hlt := h.lt
  obtain ⟨hb, h2, i, x, h0, h1, hh⟩ := h
  exact ⟨hb, h2.grown g h2.size hr, i, x, h0, h1, (g.block b hlt hne).trans hh⟩

theorem Cur.alloc {w0 : World} {a : Option Addr} {len cap b : Nat} {w : World} (h : Cur w0 a len cap b w) (o : Obj) : Cur w0 a len cap b (w.alloc o) :=
  h.grown (World.grownBy_alloc w o none) (by simp) (by simp)

/-- A row of bytes of the call's own is no cursor's block. -/
theorem Cur.ne {w0 : World} {a : Option Addr} {len cap b : Nat} {w : World} (h : Cur w0 a len cap b w) {B : Nat} {v : Value} {n : Nat} {xs : List Value} (ho : w.ownsRow B 5 1 v n xs) : v.ownBlock ≠ some b := by
  obtain ⟨hb, h2, i, x, h0, h1, hh⟩ := h
  exact Lib.ownBlock_ne (T := 77) ho hh (by decide)

/-- A draw leaves such a row. -/
theorem own_kept {w0 : World} {a : Option Addr} {len cap b : Nat} {w w1 : World} (h : Cur w0 a len cap b w) {B : Nat} {v : Value} {n : Nat} {xs : List Value} (ho : w.ownsRow B 5 1 v n xs) (g : w.grownBy w1 (some b)) : w1.ownsRow B 5 1 v n xs :=
  ho.kept g (Or.inr (h.ne ho))

set_option maxHeartbeats 2000000 in
theorem cByte (w0 : World) (a : Option Addr) (len cap b : Nat) (w : World) (hlen : len ≤ 4096) (hcr : CodeRow w0 a len) (hC : Cur w0 a len cap b w) :
    Calls Try.prog 61 #[.pointer (some ⟨b, 0, none⟩)] w fun e w' => ∃ x : Int, e = .returned (.int .i64 x) ∧ 0 ≤ x ∧ x ≤ 255 ∧ Cur w0 a len cap b w' ∧ w.grownBy w' (some b) := by
  have HC : Hid (Cur w0 a len cap b w) := hC
  obtain ⟨hb, hB, i, h, hi0, hi1, hh⟩ := hC
  have k0 : w.cell? ⟨b, 0, none⟩ = some (.slice a len cap) := by rw [Lib.cell_of_heap hh]; rfl
  have k1 : w.cell? ⟨b, 1, none⟩ = some (.int .i64 i) := by rw [Lib.cell_of_heap hh]; rfl
  have k2 : w.cell? ⟨b, 2, none⟩ = some (.int .i64 h) := by rw [Lib.cell_of_heap hh]; rfl
  have f1 : w.frozen? ⟨b, 1, none⟩ = false := Lib.frozen_of_heap hh 1
  have f2 : w.frozen? ⟨b, 2, none⟩ = false := Lib.frozen_of_heap hh 2
  have g0 := World.grownBy.refl w (some b)
  have HG : Hid (w.grownBy w (some b)) := g0
  by_cases hlt : i < len
  · obtain ⟨cb, co, z, rfl, hcb, hz⟩ : ∃ cb co, ∃ z : Nat → Int, a = some ⟨cb, co, none⟩ ∧ cb < w0.heap.size ∧ ∀ j, j < len → w0.cell? ⟨cb, co + j, none⟩ = some (.int .u8 (z j)) := by
      rcases hcr with h | h
      · omega
      · exact h
    have hne : ¬ cb = b := by omega
    have hcell : ∀ v, (w.setCell ⟨b, 2, none⟩ v).cell? ⟨cb, co + i.toNat, none⟩ = some (.int .u8 (z i.toNat)) := fun v => by
      rw [World.cell?_setCell_other _ _ _ _ (by simp [hne]), hB.cell (p := ⟨cb, co + i.toNat, none⟩) hcb]
      exact hz _ (by omega)
    clear hcr hz hB hh g0
    have hdl : decide (i < (len : Int)) = true := by simp; omega
    go_enter Try.func61, Try.ntmps61
    go_wp2
    go_quiet (fail)
    go_wp2
    go_quiet (fail)
    go_wp2
    go_quiet (fail)
    go_wp2
    go_ret
    refine ⟨_, rfl, (and255 _).1, (and255 _).2, ?_, ?_⟩
    · repeat (first | exact HC.out | apply Cur.drewN | (refine Cur.set1 ?_ _ (by omega) (by omega)) | apply Cur.set2)
    · repeat (first | exact HG.out | apply g_drewN | apply g_set)
  · have hdl : decide (i < (len : Int)) = false := by simp; omega
    clear hcr hB hh g0
    go_enter Try.func61, Try.ntmps61
    go_wp2
    go_quiet (fail)
    go_wp2
    go_quiet (fail)
    go_wp2
    go_ret
    refine ⟨_, rfl, (and255 _).1, (and255 _).2, ?_, ?_⟩
    · repeat (first | exact HC.out | apply Cur.drewN | apply Cur.set2)
    · repeat (first | exact HG.out | apply g_drewN | apply g_set)

set_option maxHeartbeats 2000000 in
/-- A number below n (n from 1 to 256). -/
theorem cBelow (n : Nat) (w0 : World) (a : Option Addr) (len cap b : Nat) (w : World) (hlen : len ≤ 4096) (hcr : CodeRow w0 a len) (hC : Cur w0 a len cap b w) (hn0 : 1 ≤ n) (hn1 : n ≤ 256) :
    Calls Try.prog 35 #[.pointer (some ⟨b, 0, none⟩), .int .i64 n] w fun e w' => ∃ x : Nat, e = .returned (.int .i64 x) ∧ x < n ∧ Cur w0 a len cap b w' ∧ w.grownBy w' (some b) := by
  have HC : Hid (Cur w0 a len cap b w) := hC
  have HR : Hid (CodeRow w0 a len) := hcr
  clear hC hcr
  have hz : ¬ (n : Int) = 0 := by omega
  go_enter Try.func35, Try.ntmps35
  go_wp2_with (go_at_call 61; refine (cByte w0 a len cap b _ hlen HR.out HC.out).mono ?_; rintro e w1 ⟨x, rfl, h0, h1, hC1, hg1⟩)
  go_ret
  have e : (x % (n : Int)) = ((x.toNat % n : Nat) : Int) := by
    have : x = (x.toNat : Int) := by omega
    rw [this]; simp
  refine ⟨x.toNat % n, ?_, Nat.mod_lt _ (by omega), hC1, hg1⟩
  first | (rw [← e]; rfl) | (rw [← e]; simp)

theorem cOnce (n : Nat) (w0 : World) (a : Option Addr) (len cap b : Nat) (w : World) (hlen : len ≤ 4096) (hcr : CodeRow w0 a len) (hC : Cur w0 a len cap b w) (hn0 : 1 ≤ n) (hn1 : n ≤ 256) :
    Calls Try.prog 34 #[.pointer (some ⟨b, 0, none⟩), .int .i64 n] w fun e w' => ∃ x : Bool, e = .returned (.bool x) ∧ Cur w0 a len cap b w' ∧ w.grownBy w' (some b) := by
  have HC : Hid (Cur w0 a len cap b w) := hC
  have HR : Hid (CodeRow w0 a len) := hcr
  clear hC hcr
  go_enter Try.func34, Try.ntmps34
  go_wp2_with (go_at_call 35; refine (cBelow n w0 a len cap b _ hlen HR.out HC.out hn0 hn1).mono ?_; rintro e w1 ⟨x, rfl, h1, hC1, hg1⟩)
  go_ret
  exact ⟨_, rfl, hC1, hg1⟩

set_option maxHeartbeats 2000000 in
theorem cNew (a : Option Addr) (len cap : Nat) (w : World) (hlen : len ≤ 4096) (hcr : CodeRow w a len) :
    Calls Try.prog 31 #[.slice a len cap] w fun e w' => e = .returned (.pointer (some ⟨w.heap.size, 0, none⟩)) ∧ Cur w a len cap w.heap.size w' := by
  go_enter Try.func31, Try.ntmps31
  go_wp2
  go_loop [3, 4] (fun h i => ∃ (k : Nat) (x : Int), k ≤ len ∧ i = .int .i64 k ∧ h = .int .i64 x) (fun _ i => len - (intOf i).toNat)
  case atStart => exact ⟨0, _, Nat.zero_le _, rfl, rfl⟩
  case round =>
    obtain ⟨k, x, hk, rfl, rfl⟩ := hrel
    by_cases hlt : k < len
    · obtain ⟨cb, co, z, rfl, hcb, hz⟩ : ∃ cb co, ∃ z : Nat → Int, a = some ⟨cb, co, none⟩ ∧ cb < w.heap.size ∧ ∀ j, j < len → w.cell? ⟨cb, co + j, none⟩ = some (.int .u8 (z j)) := by
        rcases hcr with h | h
        · omega
        · exact h
      have hcell := hz k hlt
      clear hz hcr
      go_wp2
      go_round
      case rel => exact ⟨k + 1, _, by omega, by go_num, rfl⟩
      case measure => simp [intOf]; omega
    · go_wp2
      go_ret
      refine ⟨rfl, Nat.le_refl _, (Below.refl _ _).alloc (Nat.le_refl _) _, 0, x, by omega, by omega, ?_⟩
      exact heap_alloc_new _ _

end Go.Proofs.Ytbiblabmhlgnoaa

namespace Go.Proofs.Ytbiblabmhlgnoaa
open Go.RowKit
set_option linter.unusedVariables false
set_option linter.unusedSimpArgs false

theorem code_of {w : World} {a : Option Addr} {len cap : Nat} {zs : List Int}
    (h : (a = none ∧ len = 0 ∧ cap = 0 ∧ zs = []) ∨ ∃ x, a = some x ∧ len ≤ cap ∧ cap ≤ maxLen ∧ zs.length = cap ∧ (∀ i, i < zs.length → w.cell? (x.add i) = some (.int .u8 (zs.getD i 0))) ∧ ∀ n ∈ zs, (Lit.int .u8 n).wf = true) : CodeRow w a len := by
  rcases h with ⟨_, h, _⟩ | ⟨x, rfl, hl, _, hz, hc, _⟩
  · exact .inl h
  · by_cases h0 : len = 0
    · exact .inl h0
    · obtain ⟨cb, co, rfl, hcells⟩ := ints_at hc (by omega)
      refine .inr ⟨cb, co, fun j => zs.getD j 0, rfl, ?_, fun j hj => hcells j (by omega)⟩
      have h1 := hcells 0 (by omega)
      rcases Nat.lt_or_ge cb w.heap.size with h' | h'
      · exact h'
      · simp [World.cell?, Array.getElem?_eq_none h'] at h1

theorem code_below {w w2 : World} {a : Option Addr} {len : Nat} (h : CodeRow w a len) (hb : Below w.heap.size w w2) : CodeRow w2 a len := by
  rcases h with h | ⟨cb, co, z, h1, h2, h3⟩
  · exact .inl h
  · exact .inr ⟨cb, co, z, h1, Nat.lt_of_lt_of_le h2 hb.size, fun j hj => (hb.cell (p := ⟨cb, co + j, none⟩) h2).trans (h3 j hj)⟩

theorem bt {w a b : World} (h : Below w.heap.size w a) (k : Below a.heap.size a b) : Below w.heap.size w b := h.trans (k.mono h.size)

theorem cBig_no (a : Option Addr) (len cap : Nat) (w : World) (h : len ≤ 4096) : Calls Try.prog 8 #[.slice a len cap] w fun e w' => e = .returned (.bool false) ∧ w' = w := by
  have h1 : decide ((4096 : Int) < (len : Int)) = false := by simp; omega
  go_enter Try.func8, Try.ntmps8
  go_wp2
  go_ret
  exact ⟨rfl, rfl⟩

theorem cBig_yes (a : Option Addr) (len cap : Nat) (w : World) (h : ¬ len ≤ 4096) : Calls Try.prog 8 #[.slice a len cap] w fun e w' => e = .returned (.bool true) ∧ w' = w := by
  have h1 : decide ((4096 : Int) < (len : Int)) = true := by simp; omega
  go_enter Try.func8, Try.ntmps8
  go_wp2
  go_ret
  exact ⟨rfl, rfl⟩

theorem four_wrap (x y z u : Int) (hx : 0 ≤ x ∧ x ≤ 255) (hy : 0 ≤ y ∧ y ≤ 255) (hz : 0 ≤ z ∧ z ≤ 255) (hu : 0 ≤ u ∧ u ≤ 255) :
    IntKind.i64.wrap (x * 16777216) = x * 16777216 ∧ IntKind.i64.wrap (y * 65536) = y * 65536 ∧ IntKind.i64.wrap (x * 16777216 + y * 65536) = x * 16777216 + y * 65536 ∧ IntKind.i64.wrap (z * 256) = z * 256
    ∧ IntKind.i64.wrap (x * 16777216 + y * 65536 + z * 256) = x * 16777216 + y * 65536 + z * 256 ∧ IntKind.i64.wrap (x * 16777216 + y * 65536 + z * 256 + u) = x * 16777216 + y * 65536 + z * 256 + u := by
  refine ⟨?_, ?_, ?_, ?_, ?_, ?_⟩ <;> exact IntWalk.i64_in _ (by omega)

theorem mod_nat (s : Int) (n : Nat) (h0 : 0 ≤ s) (hn : 1 ≤ n) : s.tmod (n : Int) = ((s.toNat % n : Nat) : Int) ∧ s % (n : Int) = ((s.toNat % n : Nat) : Int) := by
  obtain ⟨k, rfl⟩ : ∃ k : Nat, s = k := ⟨s.toNat, by omega⟩
  refine ⟨?_, ?_⟩
  · rw [Int.tmod_eq_emod_of_nonneg h0]; simp
  · simp

set_option maxHeartbeats 2000000 in
/-- A number below n, which is greater than 256. -/
theorem cBelowBig (n : Nat) (w0 : World) (a : Option Addr) (len cap b : Nat) (w : World) (hlen : len ≤ 4096) (hcr : CodeRow w0 a len) (hC : Cur w0 a len cap b w) (hn0 : 257 ≤ n) (hn1 : n ≤ 4294967296) :
    Calls Try.prog 35 #[.pointer (some ⟨b, 0, none⟩), .int .i64 n] w fun e w' => ∃ x : Nat, e = .returned (.int .i64 x) ∧ x < n ∧ Cur w0 a len cap b w' ∧ w.grownBy w' (some b) := by
  have HR : Hid (CodeRow w0 a len) := hcr
  have HC : Hid (Cur w0 a len cap b w) := hC
  clear hC hcr
  have hz : ¬ (n : Int) = 0 := by omega
  have d1 : decide ((n : Int) ≤ 0) = false := by simp; omega
  have d2 : decide ((n : Int) ≤ 256) = false := by simp; omega
  go_enter Try.func35, Try.ntmps35
  go_wp2_with fail
  refine (cByte w0 a len cap b _ hlen HR.out HC.out).mono ?_
  rintro e w1 ⟨x, rfl, hx0, hx1, hC1, hg1⟩
  have HC1 : Hid (Cur w0 a len cap b w1) := hC1
  have HG : Hid (w.grownBy w1 (some b)) := hg1
  clear hC1 hg1
  go_wp2_with fail
  refine (cByte w0 a len cap b _ hlen HR.out HC1.out).mono ?_
  rintro e w2 ⟨y, rfl, hy0, hy1, hC2, hg2⟩
  have HC2 : Hid (Cur w0 a len cap b w2) := hC2
  have HG2 : Hid (w.grownBy w2 (some b)) := gtrans HG.out hg2
  clear hC2 hg2
  go_wp2_with fail
  refine (cByte w0 a len cap b _ hlen HR.out HC2.out).mono ?_
  rintro e w3 ⟨z, rfl, hz0, hz1, hC3, hg3⟩
  have HC3 : Hid (Cur w0 a len cap b w3) := hC3
  have HG3 : Hid (w.grownBy w3 (some b)) := gtrans HG2.out hg3
  clear hC3 hg3
  go_wp2_with fail
  refine (cByte w0 a len cap b _ hlen HR.out HC3.out).mono ?_
  rintro e w4 ⟨u, rfl, hu0, hu1, hC4, hg4⟩
  have HC4 : Hid (Cur w0 a len cap b w4) := hC4
  have HG4 : Hid (w.grownBy w4 (some b)) := gtrans HG3.out hg4
  clear hC4 hg4
  obtain ⟨k1, k2, k3, k4, k5, k6⟩ := four_wrap x y z u ⟨hx0, hx1⟩ ⟨hy0, hy1⟩ ⟨hz0, hz1⟩ ⟨hu0, hu1⟩
  obtain ⟨s, hs⟩ : ∃ s : Int, x * 16777216 + y * 65536 + z * 256 + u = s := ⟨_, rfl⟩
  have hs0 : 0 ≤ s := by omega
  rw [hs] at k6
  obtain ⟨m1, m2⟩ := mod_nat s n hs0 (by omega)
  have hlt : s.toNat % n < n := Nat.mod_lt _ (by omega)
  obtain ⟨r, hr⟩ : ∃ r : Nat, s.toNat % n = r := ⟨_, rfl⟩
  rw [hr] at m1 m2 hlt
  clear hx0 hx1 hy0 hy1 hz0 hz1 hu0 hu1 hr
  go_wp2_with fail
  go_ret
  refine ⟨r, ?_, hlt, HC4.out, HG4.out⟩
  first | rfl | (rw [← m2]; rfl) | (rw [← m1]; rfl) | simp [m1, m2]

end Go.Proofs.Ytbiblabmhlgnoaa
