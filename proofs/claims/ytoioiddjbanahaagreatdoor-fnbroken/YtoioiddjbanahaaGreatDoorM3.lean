/-  -/
import Derived.Test.YtoioiddjbanahaaGreatDoorM2
import Derived.Test.YtoioiddjbanahaaGreatDoorRows
import Derived.Test.YtoioiddjbanahaaGreatDoorM1
import Derived.Maps.AppendAt
import Derived.Deep.Upon
import Derived.WalkKit
import Derived.OwnWalk
import Derived.Lib.BufferWrite
import Derived.Deep.QuietTactic
import Derived.BigQuiet
set_option linter.unusedVariables false
set_option linter.unusedSimpArgs false
namespace Go.Proofs.YtoioiddjbanahaaGreatDoor

open Go.RowKit

def TkRow (w : World) (a : Option Addr) (ts : List Tk) : Prop :=
 ∀ j (h : j < ts.length), ∃ b o aa cap, a = some ⟨b, o, none⟩ /\ b < w.heap.size /\ w.cell? ⟨b, o + j * 4, none⟩ = some (.int .i64 ts[j].kind) /\ w.cell? ⟨b, o + j * 4 + 1, none⟩ = some (.string ts[j].name)
  /\ w.cell? ⟨b, o + j * 4 + 2, none⟩ = some (.slice aa ts[j].attrs.length cap) /\ w.cell? ⟨b, o + j * 4 + 3, none⟩ = some (.string ts[j].text) /\ AtRow w aa ts[j].attrs

theorem TkRow.below {w w' : World} {a : Option Addr} {ts : List Tk} (h : TkRow w a ts) (hb : Below w.heap.size w w') : TkRow w' a ts := by
 intro j hj
 obtain ⟨b, o, aa, cap, ha, hlt, c0, c1, c2, c3, hr⟩ := h j hj
 exact ⟨b, o, aa, cap, ha, Nat.lt_of_lt_of_le hlt hb.size, (hb.cell (p := ⟨b, o + j * 4, none⟩) hlt).trans c0, (hb.cell (p := ⟨b, o + j * 4 + 1, none⟩) hlt).trans c1, (hb.cell (p := ⟨b, o + j * 4 + 2, none⟩) hlt).trans c2, (hb.cell (p := ⟨b, o + j * 4 + 3, none⟩) hlt).trans c3, hr.below hb⟩

def TksSz (n : Nat) (ts : List Tk) : Prop := ∀ t ∈ ts, TkSz n t

theorem quad_bw {W : World} {b o : Nat} {x y z u : Value} (hb : b < W.heap.size) (h0 : W.cell? ⟨b, o, none⟩ = some x) (h1 : W.cell? ⟨b, o + 1, none⟩ = some y) (h2 : W.cell? ⟨b, o + 2, none⟩ = some z) (h3 : W.cell? ⟨b, o + 3, none⟩ = some u) :
  (∀ p : BW W, p.w.cell? ⟨b, o, none⟩ = some x) /\ (∀ p : BW W, p.w.cell? ⟨b, o + 1, none⟩ = some y) /\ (∀ p : BW W, p.w.cell? ⟨b, o + 2, none⟩ = some z) /\ (∀ p : BW W, p.w.cell? ⟨b, o + 3, none⟩ = some u) :=
 ⟨fun p => (p.h.cell (p := ⟨b, o, none⟩) hb).trans h0, fun p => (p.h.cell (p := ⟨b, o + 1, none⟩) hb).trans h1, fun p => (p.h.cell (p := ⟨b, o + 2, none⟩) hb).trans h2, fun p => (p.h.cell (p := ⟨b, o + 3, none⟩) hb).trans h3⟩

structure KeepB (p : Nat -> Prop) (w w' : World) : Prop where
 os : w'.os = w.os
 tape : w'.tape = w.tape
 output : w'.output = w.output
 size : w.heap.size <= w'.heap.size
 block : ∀ k, k < w.heap.size -> ¬ p k -> w'.heap[k]? = w.heap[k]?

theorem KeepB.trans {p : Nat -> Prop} {a b c : World} (h : KeepB p a b) (k : KeepB p b c) : KeepB p a c :=
 ⟨k.os.trans h.os, k.tape.trans h.tape, k.output.trans h.output, Nat.le_trans h.size k.size, fun i hi hr => (k.block i (Nat.lt_of_lt_of_le hi h.size) hr).trans (h.block i hi hr)⟩

theorem KeepB.of_below (p : Nat -> Prop) {w w' : World} (h : Below w.heap.size w w') : KeepB p w w' := ⟨h.os, h.tape, h.output, h.size, fun i hi _ => h.block i hi⟩

theorem KeepB.of_grown {p : Nat -> Prop} {w w' : World} {g : Nat} (h : w.grownBy w' (some g)) (hp : p g) : KeepB p w w' :=
 ⟨h.os, h.tape, h.output, h.size, fun i hi hr => h.block i hi (fun e => hr (by rw [Option.some.inj e]; exact hp))⟩

theorem KeepB.of_set {p : Nat -> Prop} (w : World) {g : Nat} (i : Nat) (v : Value) (hp : p g) : KeepB p w (w.setCell ⟨g, i, none⟩ v) := KeepB.of_grown (Lib.grownBy_setCell w g i v) hp

theorem KeepB.below {p : Nat -> Prop} {w w' : World} {B : Nat} (h : KeepB p w w') (hB : B <= w.heap.size) (hp : ∀ k, p k -> B <= k) : Below B w w' :=
 ⟨h.os, h.tape, h.output, h.size, fun i hi => h.block i (by omega) (fun e => by have := hp i e; omega)⟩

end Go.Proofs.YtoioiddjbanahaaGreatDoor

namespace Go.Proofs.YtoioiddjbanahaaGreatDoor

open Go.RowKit

-- over type 150

-- over type 150

-- over type 150

-- over type 150

end Go.Proofs.YtoioiddjbanahaaGreatDoor

namespace Go.Proofs.YtoioiddjbanahaaGreatDoor

open Go.RowKit

theorem add_plainW (b o j : Nat) : (⟨b, o, none⟩ : Addr).add j = ⟨b, o + j, none⟩ := by unfold Addr.add; split <;> simp_all

theorem wpL_none {P : Program} (w : World) {ops : Array Oper} {rest : List Oper} {o : Oper} {a : Act} {Q : Exit -> Act -> World -> Prop} (hgd : o.guard = none) (s x : Operand) (t e : TypeId) (i : TypeInfo)
  (ho : o.op = .call { callee := .builtin .append, args := #[s, x], argTypes := #[t, t] }) (ht : P.underlying t = some (.slice e)) (hi : P.info? e = some i)
  (b : Option Addr) (n c : Nat) (hs : a.eval s = .slice b n c) (hle : n <= c) (ax : Option Addr) (cx : Nat) (hx : a.eval x = .slice ax 0 cx)
  (h : wpList P ops Q rest (a.put o.dst (.slice b n c)) w) : wpList P ops Q (o :: rest) a w := by
 refine wpList_plain hgd fun K hK => ?_
 have hsrc : Src P i.size t (.slice ax 0 cx) 0 [] w := by
  cases ax with
  | none => exact Src.ofNil w ht cx
  | some ad => exact Src.ofSlice w ht ad 0 cx [] (by simp) (fun j u h => by simp at h) (fun u h => by cases h)
 have hr := run_append_nothing (P := P) w t t o.type e i ht hi b n c hle _ hsrc
 unfold Oper.wp execOp
 simp only [ho, resolve, invoke, builtin, Sem.run_bind, Sem.run_pure, Result.andThen_ok, List.map_toArray, List.map_cons, List.map_nil, hs, hx, hr]
 exact hK _ _ h

def atC (l : List At) : List Value := l.flatMap fun x => [.string x.name, .string x.value]

theorem atC_len (l : List At) : (atC l).length = l.length * 2 := by
 induction l with
 | nil => rfl
 | cons x l ih => show (atC l).length + 2 = _; rw [ih, List.length_cons]; omega

theorem atC_get (l : List At) (j : Nat) (h : j < l.length) : (atC l)[j * 2]? = some (.string l[j].name) /\ (atC l)[j * 2 + 1]? = some (.string l[j].value) := by
 induction l generalizing j with
 | nil => simp at h
 | cons x l ih =>
  have e : atC (x :: l) = .string x.name :: .string x.value :: atC l := rfl
  rw [e]
  match j with
  | 0 => exact ⟨rfl, rfl⟩
  | j + 1 =>
   have := ih j (by simpa using h)
   rw [show (j + 1) * 2 = j * 2 + 1 + 1 by omega]
   exact this

theorem atC_one (l : List At) : ∀ u ∈ atC l, u.oneCell' = true := by
 intro u hu
 unfold atC at hu
 obtain ⟨x, _, hx⟩ := List.mem_flatMap.1 hu
 simp at hx
 rcases hx with rfl | rfl <;> rfl

theorem atC_row {w : World} {b o : Nat} {l : List At} (h : AtRow w (some ⟨b, o, none⟩) l) : ∀ j u, (atC l)[j]? = some u -> w.cell? ((⟨b, o, none⟩ : Addr).add j) = some u := by
 intro j u hj
 have hlt : j < l.length * 2 := by
  rw [<- atC_len]
  exact (List.getElem?_eq_some_iff.1 hj).1
 rw [add_plainW]
 obtain ⟨b', o', e, _, c1, c2⟩ := h (j / 2) (by omega)
 cases e
 obtain ⟨g1, g2⟩ := atC_get l (j / 2) (by omega)
 rcases Nat.mod_two_eq_zero_or_one j with h2 | h2
 ·have e2 : j / 2 * 2 = j := by omega
  rw [e2] at g1 c1
  rw [g1] at hj
  cases hj
  exact c1
 ·have e2 : j / 2 * 2 + 1 = j := by omega
  rw [Nat.add_assoc, e2] at c2
  rw [e2] at g2
  rw [g2] at hj
  cases hj
  exact c2

theorem infoAtW : (Tryz.prog.info? 67).map (fun i => (i.zero, i.size, i.bytes)) = some (some (.agg #[.string ⟨#[]⟩, .string ⟨#[]⟩]), 2, 32) := by kernel_rfl

def OwnAts (w : World) (B : Nat) (a : Option Addr) (l : List At) : Prop := 0 < l.length -> ∃ g o cu, a = some ⟨g, o, none⟩ /\ B <= g /\ w.heap[g]? = some (.cells cu 67 (0, 0)) /\ AtCells cu o l

theorem OwnAts.atRow {w : World} {B : Nat} {a : Option Addr} {l : List At} (h : OwnAts w B a l) : AtRow w a l := by
 intro j hj
 obtain ⟨g, o, cu, e, _, hh, hc⟩ := h (by omega)
 obtain ⟨c1, c2⟩ := hc j hj
 exact ⟨g, o, e, lt_of_heap hh, by rw [Lib.cell_of_heap hh]; exact c1, by rw [Lib.cell_of_heap hh]; exact c2⟩

theorem OwnAts.below {w w' : World} {B : Nat} {a : Option Addr} {l : List At} (h : OwnAts w B a l) (hb : Below w.heap.size w w') : OwnAts w' B a l := by
 intro hl
 obtain ⟨g, o, cu, e, hB, hh, hc⟩ := h hl
 exact ⟨g, o, cu, e, hB, (hb.block g (lt_of_heap hh)).trans hh, hc⟩

end Go.Proofs.YtoioiddjbanahaaGreatDoor

namespace Go.Proofs.YtoioiddjbanahaaGreatDoor

open Go.RowKit

theorem and255 (x : Int) : 0 <= bits BinOp.and IntKind.i64 x 255 /\ bits BinOp.and IntKind.i64 x 255 <= 255 := by
 have h : (BitVec.ofInt 64 x &&& BitVec.ofInt 64 255).toNat <= 255 := by
  rw [BitVec.toNat_and]
  exact Nat.le_trans Nat.and_le_right (by decide)
 have e : bits BinOp.and IntKind.i64 x 255 = IntKind.i64.wrap ((BitVec.ofInt 64 x &&& BitVec.ofInt 64 255).toNat : Int) := rfl
 rw [e, IntWalk.i64_in _ (by omega)]
 omega

def CodeRow (w0 : World) (a : Option Addr) (len : Nat) : Prop :=
 len = 0 \/ ∃ cb co, ∃ z : Nat -> Int, a = some ⟨cb, co, none⟩ /\ cb < w0.heap.size /\ ∀ j, j < len -> w0.cell? ⟨cb, co + j, none⟩ = some (.int .u8 (z j))

def Cur (w0 : World) (a : Option Addr) (len cap b : Nat) (w : World) : Prop :=
 w0.heap.size <= b /\ Below w0.heap.size w0 w /\ ∃ i h : Int, 0 <= i /\ i <= len /\ w.heap[b]? = some (.cells #[.slice a len cap, .int .i64 i, .int .i64 h] 87 (0, 0))

theorem gtrans {w w1 w2 : World} {row : Option Nat} (h : w.grownBy w1 row) (k : w1.grownBy w2 row) : w.grownBy w2 row :=
 ⟨k.os.trans h.os, k.tape.trans h.tape, k.output.trans h.output, Nat.le_trans h.size k.size, fun i hi hr => (k.block i (Nat.lt_of_lt_of_le hi h.size) hr).trans (h.block i hi hr)⟩

theorem g_drewN {w w1 : World} {row : Option Nat} (h : w.grownBy w1 row) (n : Nat) : w.grownBy (w1.drewN n) row := ⟨h.os, h.tape, h.output, h.size, h.block⟩

theorem g_set {w w1 : World} {b : Nat} (h : w.grownBy w1 (some b)) (j : Nat) (v : Value) : w.grownBy (w1.setCell ⟨b, j, none⟩ v) (some b) := gtrans h (Lib.grownBy_setCell w1 b j v)

theorem Cur.size {w0 : World} {a : Option Addr} {len cap b : Nat} {w : World} (h : Cur w0 a len cap b w) : w0.heap.size <= w.heap.size := h.2.1.size

theorem Cur.lt {w0 : World} {a : Option Addr} {len cap b : Nat} {w : World} (h : Cur w0 a len cap b w) : b < w.heap.size := by
 obtain ⟨_, _, i, x, _, _, hh⟩ := h
 exact lt_of_heap hh

theorem Cur.drewN {w0 : World} {a : Option Addr} {len cap b : Nat} {w : World} (h : Cur w0 a len cap b w) (n : Nat) : Cur w0 a len cap b (w.drewN n) := by
 obtain ⟨h1, h2, r⟩ := h
 exact ⟨h1, ⟨h2.os, h2.tape, h2.output, h2.size, h2.block⟩, r⟩

theorem Cur.set1 {w0 : World} {a : Option Addr} {len cap b : Nat} {w : World} (h : Cur w0 a len cap b w) (v : Int) (h0 : 0 <= v) (h1 : v <= len) : Cur w0 a len cap b (w.setCell ⟨b, 1, none⟩ (.int .i64 v)) := by
 obtain ⟨hb, h2, i, x, _, _, hh⟩ := h
 refine ⟨hb, h2.setCell (p := ⟨b, 1, none⟩) hb _, v, x, h0, h1, ?_⟩
 simp [World.setCell, Array.getElem?_modify, hh]

theorem Cur.set2 {w0 : World} {a : Option Addr} {len cap b : Nat} {w : World} (h : Cur w0 a len cap b w) (v : Int) : Cur w0 a len cap b (w.setCell ⟨b, 2, none⟩ (.int .i64 v)) := by
 obtain ⟨hb, h2, i, x, h0, h1, hh⟩ := h
 refine ⟨hb, h2.setCell (p := ⟨b, 2, none⟩) hb _, i, v, h0, h1, ?_⟩
 simp [World.setCell, Array.getElem?_modify, hh]

theorem Cur.grown {w0 : World} {a : Option Addr} {len cap b : Nat} {w w1 : World} {row : Option Nat} (h : Cur w0 a len cap b w) (g : w.grownBy w1 row) (hne : some b ≠ row) (hr : ∀ k, row = some k -> w0.heap.size <= k) : Cur w0 a len cap b w1 := by
 have hlt := h.lt
 obtain ⟨hb, h2, i, x, h0, h1, hh⟩ := h
 exact ⟨hb, h2.grown g h2.size hr, i, x, h0, h1, (g.block b hlt hne).trans hh⟩

theorem Cur.alloc {w0 : World} {a : Option Addr} {len cap b : Nat} {w : World} (h : Cur w0 a len cap b w) (o : Obj) : Cur w0 a len cap b (w.alloc o) :=
 h.grown (World.grownBy_alloc w o none) (by simp) (by simp)

theorem Cur.ne {w0 : World} {a : Option Addr} {len cap b : Nat} {w : World} (h : Cur w0 a len cap b w) {B : Nat} {v : Value} {n : Nat} {xs : List Value} (ho : w.ownsRow B 5 1 v n xs) : v.ownBlock ≠ some b := by
 obtain ⟨hb, h2, i, x, h0, h1, hh⟩ := h
 exact Lib.ownBlock_ne (T := 87) ho hh (by decide)

theorem own_kept {w0 : World} {a : Option Addr} {len cap b : Nat} {w w1 : World} (h : Cur w0 a len cap b w) {B : Nat} {v : Value} {n : Nat} {xs : List Value} (ho : w.ownsRow B 5 1 v n xs) (g : w.grownBy w1 (some b)) : w1.ownsRow B 5 1 v n xs :=
 ho.kept g (Or.inr (h.ne ho))

set_option maxHeartbeats 2000000 in
theorem cByte (w0 : World) (a : Option Addr) (len cap b : Nat) (w : World) (hlen : len <= 4096) (hcr : CodeRow w0 a len) (hC : Cur w0 a len cap b w) :
  Calls Tryz.prog 94 #[.pointer (some ⟨b, 0, none⟩)] w fun e w' => ∃ x : Int, e = .returned (.int .i64 x) /\ 0 <= x /\ x <= 255 /\ Cur w0 a len cap b w' /\ w.grownBy w' (some b) := by
 have HC : Hid (Cur w0 a len cap b w) := hC
 obtain ⟨hb, hB, i, h, hi0, hi1, hh⟩ := hC
 have k0 : w.cell? ⟨b, 0, none⟩ = some (.slice a len cap) := by rw [Lib.cell_of_heap hh]; rfl
 have k1 : w.cell? ⟨b, 1, none⟩ = some (.int .i64 i) := by rw [Lib.cell_of_heap hh]; rfl
 have k2 : w.cell? ⟨b, 2, none⟩ = some (.int .i64 h) := by rw [Lib.cell_of_heap hh]; rfl
 have f1 : w.frozen? ⟨b, 1, none⟩ = false := Lib.frozen_of_heap hh 1
 have f2 : w.frozen? ⟨b, 2, none⟩ = false := Lib.frozen_of_heap hh 2
 have g0 := World.grownBy.refl w (some b)
 have HG : Hid (w.grownBy w (some b)) := g0
 by_cases hlt : i < len
 ·obtain ⟨cb, co, z, rfl, hcb, hz⟩ : ∃ cb co, ∃ z : Nat -> Int, a = some ⟨cb, co, none⟩ /\ cb < w0.heap.size /\ ∀ j, j < len -> w0.cell? ⟨cb, co + j, none⟩ = some (.int .u8 (z j)) := by
   rcases hcr with h | h
   ·omega
   ·exact h
  have hne : ¬ cb = b := by omega
  have hcell : ∀ v, (w.setCell ⟨b, 2, none⟩ v).cell? ⟨cb, co + i.toNat, none⟩ = some (.int .u8 (z i.toNat)) := fun v => by
   rw [World.cell?_setCell_other _ _ _ _ (by simp [hne]), hB.cell (p := ⟨cb, co + i.toNat, none⟩) hcb]
   exact hz _ (by omega)
  clear hcr hz hB hh g0
  have hdl : decide (i < (len : Int)) = true := by simp; omega
  go_enter Tryz.func94, Tryz.ntmps94
  go_wp2
  go_quiet (fail)
  go_wp2
  go_quiet (fail)
  go_wp2
  go_quiet (fail)
  go_wp2
  go_ret
  refine ⟨_, rfl, (and255 _).1, (and255 _).2, ?_, ?_⟩
  ·repeat (first | exact HC.out | apply Cur.drewN | (refine Cur.set1 ?_ _ (by omega) (by omega)) | apply Cur.set2)
  ·repeat (first | exact HG.out | apply g_drewN | apply g_set)
 ·have hdl : decide (i < (len : Int)) = false := by simp; omega
  clear hcr hB hh g0
  go_enter Tryz.func94, Tryz.ntmps94
  go_wp2
  go_quiet (fail)
  go_wp2
  go_quiet (fail)
  go_wp2
  go_ret
  refine ⟨_, rfl, (and255 _).1, (and255 _).2, ?_, ?_⟩
  ·repeat (first | exact HC.out | apply Cur.drewN | apply Cur.set2)
  ·repeat (first | exact HG.out | apply g_drewN | apply g_set)

set_option maxHeartbeats 2000000 in
theorem cBelow (n : Nat) (w0 : World) (a : Option Addr) (len cap b : Nat) (w : World) (hlen : len <= 4096) (hcr : CodeRow w0 a len) (hC : Cur w0 a len cap b w) (hn0 : 1 <= n) (hn1 : n <= 256) :
  Calls Tryz.prog 47 #[.pointer (some ⟨b, 0, none⟩), .int .i64 n] w fun e w' => ∃ x : Nat, e = .returned (.int .i64 x) /\ x < n /\ Cur w0 a len cap b w' /\ w.grownBy w' (some b) := by
 have HC : Hid (Cur w0 a len cap b w) := hC
 have HR : Hid (CodeRow w0 a len) := hcr
 clear hC hcr
 have hz : ¬ (n : Int) = 0 := by omega
 go_enter Tryz.func47, Tryz.ntmps47
 go_wp2_with (go_at_call 94; refine (cByte w0 a len cap b _ hlen HR.out HC.out).mono ?_; rintro e w1 ⟨x, rfl, h0, h1, hC1, hg1⟩)
 go_ret
 have e : (x % (n : Int)) = ((x.toNat % n : Nat) : Int) := by
  have : x = (x.toNat : Int) := by omega
  rw [this]; simp
 refine ⟨x.toNat % n, ?_, Nat.mod_lt _ (by omega), hC1, hg1⟩
 first | (rw [<- e]; rfl) | (rw [<- e]; simp)

theorem cOnce (n : Nat) (w0 : World) (a : Option Addr) (len cap b : Nat) (w : World) (hlen : len <= 4096) (hcr : CodeRow w0 a len) (hC : Cur w0 a len cap b w) (hn0 : 1 <= n) (hn1 : n <= 256) :
  Calls Tryz.prog 22 #[.pointer (some ⟨b, 0, none⟩), .int .i64 n] w fun e w' => ∃ x : Bool, e = .returned (.bool x) /\ Cur w0 a len cap b w' /\ w.grownBy w' (some b) := by
 have HC : Hid (Cur w0 a len cap b w) := hC
 have HR : Hid (CodeRow w0 a len) := hcr
 clear hC hcr
 go_enter Tryz.func22, Tryz.ntmps22
 go_wp2_with (go_at_call 47; refine (cBelow n w0 a len cap b _ hlen HR.out HC.out hn0 hn1).mono ?_; rintro e w1 ⟨x, rfl, h1, hC1, hg1⟩)
 go_ret
 exact ⟨_, rfl, hC1, hg1⟩

set_option maxHeartbeats 2000000 in
theorem cNew (a : Option Addr) (len cap : Nat) (w : World) (hlen : len <= 4096) (hcr : CodeRow w a len) :
  Calls Tryz.prog 19 #[.slice a len cap] w fun e w' => e = .returned (.pointer (some ⟨w.heap.size, 0, none⟩)) /\ Cur w a len cap w.heap.size w' := by
 go_enter Tryz.func19, Tryz.ntmps19
 go_wp2
 go_loop [3, 4] (fun h i => ∃ (k : Nat) (x : Int), k <= len /\ i = .int .i64 k /\ h = .int .i64 x) (fun _ i => len - (intOf i).toNat)
 case atStart => exact ⟨0, _, Nat.zero_le _, rfl, rfl⟩
 case round =>
  obtain ⟨k, x, hk, rfl, rfl⟩ := hrel
  by_cases hlt : k < len
  ·obtain ⟨cb, co, z, rfl, hcb, hz⟩ : ∃ cb co, ∃ z : Nat -> Int, a = some ⟨cb, co, none⟩ /\ cb < w.heap.size /\ ∀ j, j < len -> w.cell? ⟨cb, co + j, none⟩ = some (.int .u8 (z j)) := by
    rcases hcr with h | h
    ·omega
    ·exact h
   have hcell := hz k hlt
   clear hz hcr
   go_wp2
   go_round
   case rel => exact ⟨k + 1, _, by omega, by go_num, rfl⟩
   case measure => simp [intOf]; omega
  ·go_wp2
   go_ret
   refine ⟨rfl, Nat.le_refl _, (Below.refl _ _).alloc (Nat.le_refl _) _, 0, x, by omega, by omega, ?_⟩
   exact heap_alloc_new _ _

end Go.Proofs.YtoioiddjbanahaaGreatDoor
