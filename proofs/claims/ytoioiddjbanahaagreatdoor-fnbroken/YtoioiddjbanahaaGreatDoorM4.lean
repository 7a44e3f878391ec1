/-  -/
import Derived.Test.YtoioiddjbanahaaGreatDoorM1
import Derived.Test.YtoioiddjbanahaaGreatDoorM3
import Derived.Test.YtoioiddjbanahaaGreatDoorRows
import Derived.WalkKit
import Derived.OwnWalk
import Derived.Laws.IdiomStrings
import Derived.Deep.RegionLaw
import Derived.Deep.QuietTactic
import Derived.BigQuiet
import Derived.Deep.CutRange
import Derived.Deep.RegionWith
set_option linter.unusedVariables false
set_option linter.unusedSimpArgs false
namespace Go.Proofs.YtoioiddjbanahaaGreatDoor

open Go.RowKit

end Go.Proofs.YtoioiddjbanahaaGreatDoor

namespace Go.Proofs.YtoioiddjbanahaaGreatDoor

open Go.RowKit

theorem step_append_own {P : Program} {ops : Array Oper} {o : Oper} {a : Act} {w : World} {K : Act -> World -> Prop} {Q : Exit -> Act -> World -> Prop} {E : Prop}
  (hg : o.guard = none) (s x : Operand) (t : TypeId) (hop : o.op = Op.call { callee := Callee.builtin Builtin.append, args := #[s, x], argTypes := #[t, t] })
  (base : Nat) (e : TypeId) (i : TypeInfo) (z : Value) (size bytes : Nat) (h1 : P.underlying t = some (.slice e)) (h2 : P.info? e = some i) (h3 : i.zero = some z) (h4 : i.size = size) (h5 : i.bytes = bytes) (h6 : z.cells.size = size) (h7 : 0 < size)
  (v : Value) (n : Nat) (xs : List Value) (hs : a.eval s = v) (hown : w.ownsRow base e size v n xs)
  (ad : Addr) (m c : Nat) (news : List Value) (hx : a.eval x = .slice (some ad) m c) (hn : news.length = m * size) (hc : ∀ j u, news[j]? = some u -> w.cell? (ad.add j) = some u) (h1c : ∀ u ∈ news, u.oneCell' = true)
  (b1 : n + m <= maxLen) (b2 : (n + m) * bytes <= 140737488355328) (b3 : base <= w.heap.size)
  (hK : ∀ v' w', w'.ownsRow base e size v' (n + m) (xs ++ news) -> w.grownBy w' v.ownBlock -> (v' = .slice none 0 0 ↔ v = .slice none 0 0 /\ m = 0) -> K (a.put o.dst v') w') :
  if Region.wanted o (yielded ops a.tmps) = true then Oper.wp P o a w K Q else E := by
 have hw : Region.wanted o (yielded ops a.tmps) = true := by simp [Region.wanted, hg]
 rw [if_pos hw]
 obtain ⟨v', w', hrun, r1, r2, r3⟩ := run_append_own (P := P) w base t o.type e i z size bytes h1 h2 h3 h4 h5 h6 h7 v n xs hown ad m c news hn hc h1c b1 b2 b3
 unfold Oper.wp
 simp [execOp, hop, resolve, invoke, builtin, hs, hx, hrun, Result.andThen]
 exact hK v' w' r1 r2 r3

def Row (B b : Nat) (w : World) (v : Value) (n : Nat) : Prop :=
 ∃ g cap, ∃ xs : List Int, v = .slice (some ⟨g, 0, none⟩) n cap /\ B <= g /\ g < w.heap.size /\ g ≠ b /\ n <= cap /\ cap <= maxLen /\ xs.length = n /\
  (∀ j, j < n -> w.cell? ⟨g, j, none⟩ = some (.int .u8 (xs.getD j 0))) /\ ∀ j, j < n -> w.frozen? ⟨g, j, none⟩ = false

theorem Row.kept {B b : Nat} {w w1 : World} {v : Value} {n : Nat} (h : Row B b w v n) (g1 : w.grownBy w1 (some b)) : Row B b w1 v n := by
 obtain ⟨g, cap, xs, hv, hB, hlt, hne, hn, hm, hx, hc, hf⟩ := h
 have hb := g1.block g hlt (by simpa using hne)
 exact ⟨g, cap, xs, hv, hB, Nat.lt_of_lt_of_le hlt g1.size, hne, hn, hm, hx, fun j hj => (World.cell?_of_block (a := ⟨g, j, none⟩) hb).trans (hc j hj), fun j hj => (World.frozen?_of_block (a := ⟨g, j, none⟩) hb).trans (hf j hj)⟩

theorem Row.of_own {B b : Nat} {w : World} {v : Value} {n : Nat} {zs : List Int} (h : w.ownsRow B 5 1 v n (zs.map (Value.int .u8))) (hnn : v ≠ .slice none 0 0) (hb : v.ownBlock ≠ some b) : Row B b w v n := by
 have hl := h.1
 rcases h.2 with ⟨h0, _⟩ | ⟨g, cap, cur, hv, hB, hh, hn, hm, hcs, ht⟩
 ·exact absurd h0 hnn
 ·have hb' : g ≠ b := by
   intro e
   rw [hv] at hb
   exact hb (by simp [Value.ownBlock, e])
  have hl' : zs.length = n := by simpa using hl
  refine ⟨g, cap, zs, hv, hB, lt_of_heap hh, hb', hn, hm, hl', fun j hj => ?_, fun j hj => Lib.frozen_of_heap hh j⟩
  have := h.cells (g := g) (by rw [hv]; rfl) j (.int .u8 (zs.getD j 0)) (by
   have hj' : j < zs.length := by omega
   simp [List.getD, hj'])
  have hplain : (⟨g, 0, none⟩ : Addr).add j = ⟨g, j, none⟩ := by unfold Addr.add; split <;> simp_all
  rw [hplain] at this
  exact this

theorem ints_one (zs : List Int) : ∀ u ∈ zs.map (Value.int .u8), u.oneCell' = true := by
 intro u hu
 obtain ⟨x, _, rfl⟩ := List.mem_map.1 hu
 rfl

theorem add_at (g o j : Nat) : (⟨g, o, none⟩ : Addr).add j = ⟨g, o + j, none⟩ := by unfold Addr.add; split <;> simp_all

theorem info5d : (Tryz.prog.info? 5).map (fun i => (i.zero, i.size, i.bytes)) = some (some (.int .u8 0), 1, 1) := by kernel_rfl

theorem g_row {w w1 w2 : World} {b : Nat} {row : Option Nat} (h : w.grownBy w1 (some b)) (k : w1.grownBy w2 row) (hr : ∀ x, row = some x -> w.heap.size <= x) : w.grownBy w2 (some b) :=
 ⟨k.os.trans h.os, k.tape.trans h.tape, k.output.trans h.output, Nat.le_trans h.size k.size, fun i hi hb => (k.block i (Nat.lt_of_lt_of_le hi h.size) (fun e => by have := hr i e.symm; omega)).trans (h.block i hi hb)⟩

theorem Row.set {B b g cap n : Nat} {w : World} {xs : List Int} (hB : B <= g) (hlt : g < w.heap.size) (hne : g ≠ b) (hn : n <= cap) (hm : cap <= maxLen) (hx : xs.length = n)
  (hc : ∀ j, j < n -> w.cell? ⟨g, j, none⟩ = some (.int .u8 (xs.getD j 0))) (hf : ∀ j, j < n -> w.frozen? ⟨g, j, none⟩ = false) (k : Nat) (hk : k < n) (c : Int) :
  Row B b (w.setCell ⟨g, k, none⟩ (.int .u8 c)) (.slice (some ⟨g, 0, none⟩) n cap) n := by
 refine ⟨g, cap, xs.set k c, rfl, hB, by simpa [World.setCell] using hlt, hne, hn, hm, by simpa using hx, fun j hj => ?_, fun j hj => ?_⟩
 ·by_cases h : j = k
  ·subst h
   rw [World.cell?_setCell_same _ _ _ (by rw [hc j hj])]
   simp [List.getD, List.getElem?_set, hx, hk]
  ·rw [World.cell?_setCell_other _ _ _ _ (by simp [Ne.symm h]), hc j hj]
   simp [List.getD, List.getElem?_set, Ne.symm h]
 ·rw [World.frozen?_setCell]
  exact hf j hj

theorem Row.cut {B b : Nat} {w : World} {n g cap : Nat} (h : Row B b w (.slice (some ⟨g, 0, none⟩) n cap) n) (k : Nat) (hk : k <= n) : Row B b w (.slice (some ⟨g, 0, none⟩) k cap) k := by
 obtain ⟨g', cap', xs, hv, hB, hlt, hne, hn, hm, hx, hc, hf⟩ := h
 injection hv with e1 e2 e3
 injection e1 with e1
 injection e1 with e1
 subst e1 e3
 refine ⟨g, cap, xs.take k, rfl, hB, hlt, hne, by omega, hm, by simp; omega, fun j hj => ?_, fun j hj => hf j (by omega)⟩
 rw [hc j (by omega)]
 simp [List.getD, List.getElem?_take, hj]

theorem sl_pre (g L cap k : Nat) (h : k <= cap) (hc : ¬ cap = 0) (W : World) : (Instr.slice 22 (.slice (some ⟨g, 0, none⟩) L cap) none (some (.int .i64 k)) none).run Tryz.prog W = .ok (.slice (some ⟨g, 0, none⟩) k cap) W := by
 have h' : (k : Int) <= cap := by omega
 go_simp

theorem sl_suf (g L cap k : Nat) (h : k <= L) (hL : L <= cap) (W : World) : (Instr.slice 22 (.slice (some ⟨g, 0, none⟩) L cap) (some (.int .i64 k)) none none).run Tryz.prog W = .ok (.slice (some (if cap = k then ⟨g, 0, none⟩ else ⟨g, k, none⟩)) (L - k) (cap - k)) W := by
 have h' : (k : Int) <= L := by omega
 have h2 : (L : Int) <= cap := by omega
 go_simp
 by_cases e : cap = k <;> simp [e, Addr.add]

theorem suf_addr (g L cap k : Nat) (hL : L <= cap) : ∃ A : Addr, (if cap = k then (⟨g, 0, none⟩ : Addr) else ⟨g, k, none⟩) = A /\ ∀ j, j < L - k -> A.add j = ⟨g, k + j, none⟩ := by
 refine ⟨_, rfl, fun j hj => ?_⟩
 rw [if_neg (by omega), add_at]

def bare (w : World) : World := w.drew.alloc (.cells #[] 5)

theorem own_bare (w : World) (B : Nat) (hB : B <= w.heap.size) : (bare w).ownsRow B 5 1 (.slice (some ⟨w.heap.size, 0, none⟩) 0 0) 0 [] :=
 World.ownsRow_made w.drew #[] 0 hB (by decide) rfl

theorem cell_bare (w : World) (g j : Nat) (h : g < w.heap.size) : (bare w).cell? ⟨g, j, none⟩ = w.cell? ⟨g, j, none⟩ :=
 World.cell?_of_block (a := ⟨g, j, none⟩) (Lib.alloc_old w.drew _ g h)

theorem grown_bare (w : World) (row : Option Nat) : w.grownBy (bare w) row := by
 have gg := World.grownBy_alloc w.drew (.cells #[] 5) row
 exact ⟨gg.os, gg.tape, gg.output, gg.size, gg.block⟩

theorem src_pre {w : World} {g L k : Nat} {xs : List Int} (hx : xs.length = L) (hk : k <= L) (hc : ∀ j, j < L -> w.cell? ⟨g, j, none⟩ = some (.int .u8 (xs.getD j 0))) :
  ∀ j u, ((xs.take k).map (Value.int .u8))[j]? = some u -> w.cell? ((⟨g, 0, none⟩ : Addr).add j) = some u := by
 intro j u hj
 have hjk : j < k := by
  rcases Nat.lt_or_ge j k with h | h
  ·exact h
  ·rw [List.getElem?_eq_none (by simp; omega)] at hj; simp at hj
 rw [add_at, Nat.zero_add, hc j (by omega)]
 have hjl : j < xs.length := by omega
 simp [List.getElem?_take, hjk, hjl] at hj
 simp [List.getD, hjl, hj]

theorem src_suf {w : World} {g L k : Nat} {xs : List Int} {A : Addr} (hx : xs.length = L) (hA : ∀ j, j < L - k -> A.add j = ⟨g, k + j, none⟩) (hc : ∀ j, j < L -> w.cell? ⟨g, j, none⟩ = some (.int .u8 (xs.getD j 0))) :
  ∀ j u, ((xs.drop k).map (Value.int .u8))[j]? = some u -> w.cell? (A.add j) = some u := by
 intro j u hj
 have hjk : j < L - k := by
  rcases Nat.lt_or_ge j (L - k) with h | h
  ·exact h
  ·rw [List.getElem?_eq_none (by simp; omega)] at hj; simp at hj
 have hjl : k + j < xs.length := by omega
 rw [hA j hjk, hc (k + j) (by omega)]
 simp [List.getElem?_drop, hjl] at hj
 simp [List.getD, hjl, hj]

theorem cell_grown {w w1 : World} {v : Value} {B n : Nat} {ys : List Value} (ho : w.ownsRow B 5 1 v n ys) (hg : w.grownBy w1 v.ownBlock) {g L : Nat} {xs : List Int} (hgl : g < w.heap.size) (hne : some g ≠ v.ownBlock)
  (hc : ∀ j, j < L -> w.cell? ⟨g, j, none⟩ = some (.int .u8 (xs.getD j 0))) : ∀ j, j < L -> w1.cell? ⟨g, j, none⟩ = some (.int .u8 (xs.getD j 0)) := fun j hj =>
 (World.cell?_of_block (a := ⟨g, j, none⟩) (hg.block g hgl hne)).trans (hc j hj)

theorem one_cell5 (w : World) (v : Value) : ∀ j u, [v][j]? = some u -> (w.alloc (.cells #[v] 5)).cell? ((⟨w.heap.size, 0, none⟩ : Addr).add j) = some u := by
 intro j u hj
 match j, hj with
 | 0, hj => simp at hj; subst hj; simp [Addr.add]

theorem Row.mono {B B1 b : Nat} {w : World} {v : Value} {n : Nat} (h : Row B b w v n) (hB : B1 <= B) : Row B1 b w v n := by
 obtain ⟨g, cap, xs, hv, hg, r⟩ := h
 exact ⟨g, cap, xs, hv, Nat.le_trans hB hg, r⟩

theorem cells3 {w4 W1 W2 W3 : World} {b g L : Nat} {xs : List Int} {v1 : Value} {n : Nat} {ys : List Value} {o : Obj} (hg4 : g < w4.heap.size) (hgb : g ≠ b) (hs : w4.heap.size <= W1.heap.size)
  (hc : ∀ j, j < L -> W1.cell? ⟨g, j, none⟩ = some (.int .u8 (xs.getD j 0))) (hG : W1.grownBy W2 (some b)) (hown1 : W1.ownsRow w4.heap.size 5 1 v1 n ys) (h3 : (W2.alloc o).grownBy W3 v1.ownBlock) :
  ∀ j, j < L -> W3.cell? ⟨g, j, none⟩ = some (.int .u8 (xs.getD j 0)) := fun j hj => by
 have h2 : g < W2.heap.size := by have := hG.size; omega
 have e3 := h3.block g (by simp; omega) (fun e => by have := (hown1.lt g e.symm).1; omega)
 have e2 := Lib.alloc_old W2 o g h2
 have e1 := hG.block g (by omega) (by simpa using hgb)
 exact (World.cell?_of_block (a := ⟨g, j, none⟩) (e3.trans (e2.trans e1))).trans (hc j hj)

theorem Cur.bare {w0 : World} {a : Option Addr} {len cap b : Nat} {w : World} (h : Cur w0 a len cap b w) : Cur w0 a len cap b (bare w) := h.grown (grown_bare w none) (by simp) (by simp)

theorem own_ge {w w1 : World} {B B0 : Nat} {v : Value} {n : Nat} {xs : List Value} (h : w.ownsRow B 5 1 v n xs) (hB : B0 <= B) : ∀ k, v.ownBlock = some k -> B0 <= k := fun k hk => Nat.le_trans hB (h.lt k hk).1

set_option maxRecDepth 8000 in
set_option maxHeartbeats 4000000 in
theorem cBend (s signs : ByteArray) (w0 : World) (a : Option Addr) (len cap b : Nat) (w : World) (hs : s.size <= 250) (hg0 : 1 <= signs.size) (hg1 : signs.size <= 256) (hlen : len <= 4096) (hcr : CodeRow w0 a len) (hC : Cur w0 a len cap b w) :
  Calls Tryz.prog 49 #[.pointer (some ⟨b, 0, none⟩), .string s, .string signs] w fun e w' => ∃ t : ByteArray, e = .returned (.string t) /\ t.size <= s.size + 2 /\ Cur w0 a len cap b w' /\ w.grownBy w' (some b) := by
 obtain ⟨i0, hi, hz0, hz1, hz2⟩ := info_parts info5d
 have HR : Hid (CodeRow w0 a len) := hcr
 have HC : Hid (Cur w0 a len cap b w) := hC
 clear hC hcr
 have hconv := run_bytes_of_string (P := Tryz.prog) w 9 22 5 s Tryz.underlying9 Tryz.underlying22 Tryz.underlying5
 obtain ⟨w1, hw1⟩ : ∃ w1, w1 = (w.drew.alloc (.cells (bytesRow s (grownCap w s.size 0 5)) 5 ((bytesRow s (grownCap w s.size 0 5)).size, (bytesRow s (grownCap w s.size 0 5)).size + 1))) := ⟨_, rfl⟩
 obtain ⟨cp, hcp⟩ : ∃ cp, cp = grownCap w s.size 0 5 := ⟨_, rfl⟩
 rw [<- hw1, <- hcp] at hconv
 have hcl : s.size <= cp := by rw [hcp]; exact grownCap_ge _ _ _ _
 have hcm : cp <= maxLen := by rw [hcp]; exact grownCap_le_maxLen _ _ _ _ (by unfold maxLen; omega)
 have HRow : Hid (Row w.heap.size b w1 (.slice (some ⟨w.heap.size, 0, none⟩) s.size cp) s.size) := by
  have hh : w1.heap[w.heap.size]? = some (.cells (bytesRow s cp) 5 ((bytesRow s cp).size, (bytesRow s cp).size + 1)) := by rw [hw1, <- hcp]; exact heap_alloc_new w.drew _
  have hbl : b < w.heap.size := HC.out.lt
  have hbs : (bytesRow s cp).size = cp := by
   have : s.data.size = s.size := rfl
   simp [bytesRow]; omega
  refine ⟨w.heap.size, cp, s.data.toList.map fun x => (x.toNat : Int), rfl, Nat.le_refl _, lt_of_heap hh, by omega, hcl, hcm, by simp, fun j hj => ?_, fun j hj => ?_⟩
  ·have hj' : j < s.data.size := hj
   rw [Lib.cell_of_heap hh]
   simp [bytesRow, List.getD, hj', hj, Array.getElem?_append]
  ·have : ¬ (bytesRow s cp).size <= j := by omega
   simp [World.frozen?, hh, this]
 have HC1 : Hid (Cur w0 a len cap b w1) := by rw [hw1]; exact Cur.alloc (w := w.drew) (HC.out.drewN 1) _
 have HG1 : Hid (w.grownBy w1 (some b)) := by
  rw [hw1]
  have gg := World.grownBy_alloc w.drew (.cells (bytesRow s (grownCap w s.size 0 5)) 5 ((bytesRow s (grownCap w s.size 0 5)).size, (bytesRow s (grownCap w s.size 0 5)).size + 1)) (some b)
  exact ⟨gg.os, gg.tape, gg.output, gg.size, gg.block⟩
 clear hw1 hcp hcl hcm
 go_enter Tryz.func49, Tryz.ntmps49
 go_wp2_with (go_at_call 47; refine (cBelow 3 w0 a len cap b _ hlen HR.out HC1.out (by decide) (by decide)).mono ?_; rintro e w2 ⟨x0, rfl, hx0, hC2, hG2⟩)
 have HC2 : Hid (Cur w0 a len cap b w2) := hC2
 have HG2 : Hid (w.grownBy w2 (some b)) := gtrans HG1.out hG2
 have HR2 : Hid (Row w.heap.size b w2 (.slice (some ⟨w.heap.size, 0, none⟩) s.size cp) s.size) := HRow.out.kept hG2
 clear hC2 hG2 hconv HRow HC1 HG1
 go_loopw [7, 8] (fun v n wr => ∃ m L : Nat, n = .int .i64 m /\ m <= 2 /\ L + m <= s.size + 2 /\ Row w.heap.size b wr v L /\ Cur w0 a len cap b wr /\ w.grownBy wr (some b)) (fun _ n _ => (intOf n).toNat)
 case atStart => exact ⟨x0, s.size, rfl, by omega, by omega, HR2.out, HC2.out, HG2.out⟩
 case round =>
  obtain ⟨m, L, rfl, hm, hL, hRow, hCr, hGr⟩ := hrel
  have HRr : Hid (Row w.heap.size b wr u7 L) := hRow
  obtain ⟨g, cap', xs, rfl, hgB, hgl, hgb, hLc, hcm, hxl, hcell, hfr⟩ := hRow
  have HCr : Hid (Cur w0 a len cap b wr) := hCr
  have HGr : Hid (w.grownBy wr (some b)) := hGr
  clear hCr hGr
  by_cases hgo : 0 < m /\ 0 < L
  ·obtain ⟨hm0, hL0⟩ := hgo
   have hLb : decide ((0 : Int) < (L : Int)) = true := by simp; omega
   have hmb : decide ((0 : Int) < (m : Int)) = true := by simp; omega
   go_wp2_with fail
   refine (cBelow L w0 a len cap b _ hlen HR.out HCr.out (by omega) (by omega)).mono ?_
   rintro e w3 ⟨k, rfl, hk, hC3, hG3⟩
   go_wp2_with fail
   refine (cBelow 4 w0 a len cap b _ hlen HR.out hC3 (by decide) (by decide)).mono ?_
   rintro e w4 ⟨q, rfl, hq, hC4, hG4⟩
   have HC4 : Hid (Cur w0 a len cap b w4) := hC4
   have HG4 : Hid (wr.grownBy w4 (some b)) := gtrans hG3 hG4
   clear hC3 hG3 hC4 hG4 hLb hmb
   rcases (show q = 0 \/ q = 1 \/ q = 2 \/ q = 3 from by omega) with rfl | rfl | rfl | rfl
   ·go_wp2_with fail
    refine (cBelow signs.size w0 a len cap b _ hlen HR.out HC4.out hg0 hg1).mono ?_
    rintro e w5 ⟨y, rfl, hy, hC5, hG5⟩
    have hblk := (gtrans HG4.out hG5).block g hgl (by simpa using hgb)
    have hG : w.grownBy w5 (some b) := gtrans HGr.out (gtrans HG4.out hG5)
    have hc5 : ∀ j, j < L -> w5.cell? ⟨g, j, none⟩ = some (.int .u8 (xs.getD j 0)) := fun j hj => (World.cell?_of_block (a := ⟨g, j, none⟩) hblk).trans (hcell j hj)
    have hf5 : ∀ j, j < L -> w5.frozen? ⟨g, j, none⟩ = false := fun j hj => (World.frozen?_of_block (a := ⟨g, j, none⟩) hblk).trans (hfr j hj)
    have hg5 : g < w5.heap.size := Nat.lt_of_lt_of_le hgl (Nat.le_trans HG4.out.size hG5.size)
    have R := Row.set (B := w.heap.size) (b := b) (w := w5) hgB hg5 hgb hLc hcm hxl hc5 hf5 k hk
    have HRn : Hid (∀ c, Row w.heap.size b (w5.setCell ⟨g, k, none⟩ (.int .u8 c)) (.slice (some ⟨g, 0, none⟩) L cap') L) := R
    have HCn : Hid (∀ c : Int, Cur w0 a len cap b (w5.setCell ⟨g, k, none⟩ (.int .u8 c))) := fun c => hC5.grown (Lib.grownBy_setCell w5 g k _) (by simpa using fun e : b = g => hgb e.symm) (fun x hx => by have := HCr.out.size; have := HGr.out.size; have := HC.out.size; simp at hx; omega)
    have HGn : Hid (∀ c : Int, w.grownBy (w5.setCell ⟨g, k, none⟩ (.int .u8 c)) (some b)) := fun c => g_row hG (Lib.grownBy_setCell w5 g k _) (fun x hx => by simp at hx; omega)
    have ck := hc5 k hk
    have fk := hf5 k hk
    clear hblk hG hc5 hf5 R hC5 hG5 hcell hfr
    go_wp2
    go_roundw
    case rel => exact ⟨m - 1, L, by go_num, by omega, by omega, HRn.out _, HCn.out _, HGn.out _⟩
    case measure => simp [intOf]; omega
   ·have HRn : Hid (Row w.heap.size b w4 (.slice (some ⟨g, 0, none⟩) k cap') k) := (HRr.out.kept HG4.out).cut k (by omega)
    have HGn : Hid (w.grownBy w4 (some b)) := gtrans HGr.out HG4.out
    have hcz : ¬ cap' = 0 := by omega
    have hkc : (k : Int) <= (cap' : Int) := by omega
    clear hcell hfr
    go_wp2
    go_roundw
    case rel => exact ⟨m - 1, k, by go_num, by omega, by omega, HRn.out, HC4.out, HGn.out⟩
    case measure => simp [intOf]; omega
   ·have hcz : ¬ cap' = 0 := by omega
    have hwr : IntKind.i64.wrap ((k : Int) + 1) = (k : Int) + 1 := IntWalk.i64_in _ (by omega)
    have hs3 := sl_pre g L cap' k (by omega) hcz
    obtain ⟨A, hA, hAj⟩ := suf_addr g L cap' (k + 1) hLc
    have hs8 : ∀ W, (Instr.slice 22 (.slice (some ⟨g, 0, none⟩) L cap') (some (.int .i64 ((k : Int) + 1))) none none).run Tryz.prog W = .ok (.slice (some A) (L - (k + 1)) (cap' - (k + 1))) W := fun W => by
     have := sl_suf g L cap' (k + 1) (by omega) hLc W
     rw [hA] at this
     exact this
    have hblk := HG4.out.block g hgl (by simpa using hgb)
    have hg4 : g < w4.heap.size := Nat.lt_of_lt_of_le hgl HG4.out.size
    have hw4 : w.heap.size <= w4.heap.size := Nat.le_trans HGr.out.size HG4.out.size
    have hcb : ∀ j, j < L -> (bare w4).cell? ⟨g, j, none⟩ = some (.int .u8 (xs.getD j 0)) := fun j hj => by
     rw [cell_bare w4 g j hg4]; exact (World.cell?_of_block (a := ⟨g, j, none⟩) hblk).trans (hcell j hj)
    have HO0 : Hid ((bare w4).ownsRow w.heap.size 5 1 (.slice (some ⟨w4.heap.size, 0, none⟩) 0 0) 0 []) := own_bare w4 _ hw4
    have HS1 : Hid (∀ j u, ((xs.take k).map (Value.int .u8))[j]? = some u -> (bare w4).cell? ((⟨g, 0, none⟩ : Addr).add j) = some u) := src_pre hxl (by omega) hcb
    have HCB : Hid (∀ j, j < L -> (bare w4).cell? ⟨g, j, none⟩ = some (.int .u8 (xs.getD j 0))) := hcb
    have HAj : Hid (∀ j, j < L - (k + 1) -> A.add j = ⟨g, (k + 1) + j, none⟩) := hAj
    have hl1 : ((xs.take k).map (Value.int .u8)).length = k * 1 := by simp; omega
    have hl2 : ((xs.drop (k + 1)).map (Value.int .u8)).length = (L - (k + 1)) * 1 := by simp; omega
    clear hcell hfr hblk hcb hAj hA
    go_wp2
    go_region_law (first
     | (refine step_append_own rfl (.tmp 47) (.tmp 50) 22 rfl w.heap.size 5 i0 (.int .u8 0) 1 1 Tryz.underlying22 hi hz0 hz1 hz2 rfl (by decide) (.slice (some ⟨w4.heap.size, 0, none⟩) 0 0) 0 [] (by simp [Act.eval, Act.put]) HO0.out ⟨g, 0, none⟩ k cap' ((xs.take k).map (Value.int .u8)) (by simp [Act.eval, Act.put]) hl1 HS1.out (ints_one _) (by unfold maxLen; omega) (by omega) (by simp [bare]; omega) ?_; intro v1 W1 hown1 hgrow1 hnil1)
     | (refine step_append_own rfl (.tmp 51) (.tmp 55) 22 rfl w.heap.size 5 i0 (.int .u8 0) 1 1 Tryz.underlying22 hi hz0 hz1 hz2 rfl (by decide) v1 (0 + k) ([] ++ (xs.take k).map (Value.int .u8)) (by simp [Act.eval, Act.put]) hown1 A (L - (k + 1)) (cap' - (k + 1)) ((xs.drop (k + 1)).map (Value.int .u8)) (by simp [Act.eval, Act.put]) hl2 (src_suf hxl HAj.out (cell_grown HO0.out hgrow1 (by simp [bare]; omega) (by simp [Value.ownBlock]; omega) HCB.out)) (ints_one _) (by unfold maxLen; omega) (by omega) (Nat.le_trans (show w.heap.size <= (bare w4).heap.size by simp [bare]; omega) hgrow1.size) ?_; intro v2 W2 hown2 hgrow2 hnil2))
    have hw0 : w0.heap.size <= w.heap.size := HC.out.size
    have hbl : b < w4.heap.size := HC4.out.lt
    have C1 := HC4.out.bare.grown hgrow1 (by simp [Value.ownBlock]; omega) (own_ge (w1 := W1) HO0.out hw0)
    have C2 := C1.grown hgrow2 (fun e => (C1.ne hown1) e.symm) (own_ge (w1 := W2) hown1 hw0)
    have G1 := g_row (gtrans HGr.out HG4.out) (grown_bare w4 none) (by simp)
    have G2 := g_row (g_row G1 hgrow1 (own_ge (w1 := W1) HO0.out (Nat.le_refl _))) hgrow2 (own_ge (w1 := W2) hown1 (Nat.le_refl _))
    have nn1 : v1 ≠ .slice none 0 0 := fun e => by simpa using (hnil1.1 e).1
    have nn2 : v2 ≠ .slice none 0 0 := fun e => nn1 (hnil2.1 e).1
    have R : Row w.heap.size b W2 v2 (L - 1) := by
     refine Row.of_own (zs := xs.take k ++ xs.drop (k + 1)) ?_ nn2 (C2.ne hown2)
     have e1 : 0 + k + (L - (k + 1)) = L - 1 := by omega
     rw [<- e1, List.map_append]
     exact hown2
    have HRn : Hid (Row w.heap.size b W2 v2 (L - 1)) := R
    have HCn : Hid (Cur w0 a len cap b W2) := C2
    have HGn : Hid (w.grownBy W2 (some b)) := G2
    clear R C1 C2 G1 G2 nn1 nn2 hown1 hown2 hgrow1 hgrow2 hnil1 hnil2 hs3 hs8 hwr HO0 HS1 HCB HAj hl1 hl2
    go_wp2
    go_roundw
    case rel => exact ⟨m - 1, L - 1, by go_num, by omega, by omega, HRn.out, HCn.out, HGn.out⟩
    case measure => simp [intOf]; omega
   ·have hcz : ¬ cap' = 0 := by omega
    have hs3 := sl_pre g L cap' k (by omega) hcz
    obtain ⟨A, hA, hAj⟩ := suf_addr g L cap' k hLc
    have hs8 : ∀ W, (Instr.slice 22 (.slice (some ⟨g, 0, none⟩) L cap') (some (.int .i64 (k : Int))) none none).run Tryz.prog W = .ok (.slice (some A) (L - k) (cap' - k)) W := fun W => by
     have := sl_suf g L cap' k (by omega) hLc W
     rw [hA] at this
     exact this
    have hblk := HG4.out.block g hgl (by simpa using hgb)
    have hg4 : g < w4.heap.size := Nat.lt_of_lt_of_le hgl HG4.out.size
    have hw4 : w.heap.size <= w4.heap.size := Nat.le_trans HGr.out.size HG4.out.size
    have hw0 : w0.heap.size <= w.heap.size := HC.out.size
    have hbl : b < w4.heap.size := HC4.out.lt
    have hcb : ∀ j, j < L -> (bare w4).cell? ⟨g, j, none⟩ = some (.int .u8 (xs.getD j 0)) := fun j hj => by
     rw [cell_bare w4 g j hg4]; exact (World.cell?_of_block (a := ⟨g, j, none⟩) hblk).trans (hcell j hj)
    have HO0 : Hid ((bare w4).ownsRow w4.heap.size 5 1 (.slice (some ⟨w4.heap.size, 0, none⟩) 0 0) 0 []) := own_bare w4 _ (Nat.le_refl _)
    have HS1 : Hid (∀ j u, ((xs.take k).map (Value.int .u8))[j]? = some u -> (bare w4).cell? ((⟨g, 0, none⟩ : Addr).add j) = some u) := src_pre hxl (by omega) hcb
    have HCB : Hid (∀ j, j < L -> (bare w4).cell? ⟨g, j, none⟩ = some (.int .u8 (xs.getD j 0))) := hcb
    have HAj : Hid (∀ j, j < L - k -> A.add j = ⟨g, k + j, none⟩) := hAj
    have hl1 : ((xs.take k).map (Value.int .u8)).length = k * 1 := by simp; omega
    have hl2 : ((xs.drop k).map (Value.int .u8)).length = (L - k) * 1 := by simp; omega
    have HCbare : Hid (Cur w0 a len cap b (bare w4)) := HC4.out.bare
    clear hcell hfr hblk hcb hAj hA
    go_wp2
    go_region_law (first
     | (refine step_append_own rfl (.tmp 59) (.tmp 62) 22 rfl w4.heap.size 5 i0 (.int .u8 0) 1 1 Tryz.underlying22 hi hz0 hz1 hz2 rfl (by decide) (.slice (some ⟨w4.heap.size, 0, none⟩) 0 0) 0 [] (by simp [Act.eval, Act.put]) HO0.out ⟨g, 0, none⟩ k cap' ((xs.take k).map (Value.int .u8)) (by simp [Act.eval, Act.put]) hl1 HS1.out (ints_one _) (by unfold maxLen; omega) (by omega) (by simp [bare]) ?_; intro v1 W1 hown1 hgrow1 hnil1; have hC1 := HCbare.out.grown hgrow1 (by simp [Value.ownBlock]; omega) (own_ge (w1 := W1) HO0.out (Nat.le_trans hw0 hw4)); have hcW1 := cell_grown HO0.out hgrow1 (by simp [bare]; omega) (by simp [Value.ownBlock]; omega) HCB.out; have hsW1 : w4.heap.size <= W1.heap.size := Nat.le_trans (show w4.heap.size <= (bare w4).heap.size by simp [bare]) hgrow1.size; have HW1 : Hid (∀ j, j < L -> W1.cell? ⟨g, j, none⟩ = some (.int .u8 (xs.getD j 0))) := hcW1; clear hcW1)
     | (refine step_append_own rfl (.tmp 63) (.tmp 70) 22 rfl w4.heap.size 5 i0 (.int .u8 0) 1 1 Tryz.underlying22 hi hz0 hz1 hz2 rfl (by decide) v1 (0 + k) ([] ++ (xs.take k).map (Value.int .u8)) (by simp [Act.eval, Act.put]) ((own_kept hC1 hown1 hG5).alloc _) ⟨W2.heap.size, 0, none⟩ 1 1 [.int .u8 (signs[y].toNat : Int)] (by simp [Act.eval, Act.put]) rfl (one_cell5 _ _) (ints_one [(signs[y].toNat : Int)]) (by unfold maxLen; omega) (by omega) (by simp; have := hG5.size; omega) ?_; intro v3 W3 hown3 hgrow3 hnil3)
     | (refine step_append_own rfl (.tmp 71) (.tmp 74) 22 rfl w4.heap.size 5 i0 (.int .u8 0) 1 1 Tryz.underlying22 hi hz0 hz1 hz2 rfl (by decide) v3 (0 + k + 1) (([] ++ (xs.take k).map (Value.int .u8)) ++ [.int .u8 (signs[y].toNat : Int)]) (by simp [Act.eval, Act.put]) hown3 A (L - k) (cap' - k) ((xs.drop k).map (Value.int .u8)) (by simp [Act.eval, Act.put]) hl2 (src_suf hxl HAj.out (cells3 hg4 hgb hsW1 HW1.out hG5 hown1 hgrow3)) (ints_one _) (by unfold maxLen; omega) (by omega) (Nat.le_trans hsW1 (Nat.le_trans hG5.size (Nat.le_trans (by simp) hgrow3.size))) ?_; intro v4 W4 hown4 hgrow4 hnil4)
     | (go_simp; go_at_call 47; refine (cBelow signs.size w0 a len cap b _ hlen HR.out hC1 hg0 hg1).mono ?_; rintro e W2 ⟨y, rfl, hy, hC5, hG5⟩))
    have O2 := own_kept hC1 hown1 hG5
    have C3 := (hC5.alloc (.cells #[.int .u8 (signs[y].toNat : Int)] 5)).grown hgrow3 (fun e => (hC5.ne O2) e.symm) (own_ge (w1 := W3) O2 (Nat.le_trans hw0 hw4))
    have C4 := C3.grown hgrow4 (fun e => (C3.ne hown3) e.symm) (own_ge (w1 := W4) hown3 (Nat.le_trans hw0 hw4))
    have G1 := g_row (gtrans HGr.out HG4.out) (grown_bare w4 none) (by simp)
    have G2 := gtrans (g_row G1 hgrow1 (own_ge (w1 := W1) HO0.out hw4)) hG5
    have G3 := g_row (g_row G2 (World.grownBy_alloc W2 (.cells #[.int .u8 (signs[y].toNat : Int)] 5) none) (by simp)) hgrow3 (own_ge (w1 := W3) O2 hw4)
    have G4 := g_row G3 hgrow4 (own_ge (w1 := W4) hown3 hw4)
    have nn1 : v1 ≠ .slice none 0 0 := fun e => by simpa using (hnil1.1 e).1
    have nn3 : v3 ≠ .slice none 0 0 := fun e => nn1 (hnil3.1 e).1
    have nn4 : v4 ≠ .slice none 0 0 := fun e => nn3 (hnil4.1 e).1
    have R : Row w4.heap.size b W4 v4 (L + 1) := by
     refine Row.of_own (zs := xs.take k ++ [(signs[y].toNat : Int)] ++ xs.drop k) ?_ nn4 (C4.ne hown4)
     have e1 : 0 + k + 1 + (L - k) = L + 1 := by omega
     rw [<- e1, List.map_append, List.map_append]
     exact hown4
    have HRn : Hid (Row w.heap.size b W4 v4 (L + 1)) := R.mono hw4
    have HCn : Hid (Cur w0 a len cap b W4) := C4
    have HGn : Hid (w.grownBy W4 (some b)) := G4
    clear R O2 C3 C4 G1 G2 G3 G4 nn1 nn3 nn4 hown1 hown3 hown4 hgrow1 hgrow3 hgrow4 hnil1 hnil3 hnil4 hs3 hs8 HO0 HS1 HCB HAj hl1 hl2 hC1 hC5 hG5 HW1
    go_wp2
    go_roundw
    case rel => exact ⟨m - 1, L + 1, by go_num, by omega, by omega, HRn.out, HCn.out, HGn.out⟩
    case measure => simp [intOf]; omega
  ·have hrow : ∀ W, (∀ j, j < L -> W.cell? ⟨g, j, none⟩ = some (.int .u8 (xs.getD j 0))) -> (convert 22 9 (.slice (some ⟨g, 0, none⟩) L cap')).run Tryz.prog W = .ok (.string (strOfNums xs)) W := fun W hW => run_convert_bytes_arg (P := Tryz.prog) W 22 5 Tryz.underlying22 Tryz.underlying5 g 0 L cap' xs hxl (fun i hi => by rw [Nat.zero_add]; exact hW i hi) 9 Tryz.underlying9
   have hr := hrow wr hcell
   have hsz : (strOfNums xs).size = L := by rw [strOfNums_size]; exact hxl
   clear hrow hcell hfr
   by_cases hm0 : 0 < m
   ·have hmb : decide ((0 : Int) < (m : Int)) = true := by simp; omega
    have hLb : decide ((0 : Int) < (L : Int)) = false := by simp; omega
    go_wp2
    go_ret
    exact ⟨_, rfl, by rw [hsz]; omega, HCr.out, HGr.out⟩
   ·have hmb : decide ((0 : Int) < (m : Int)) = false := by simp; omega
    go_wp2
    go_ret
    exact ⟨_, rfl, by rw [hsz]; omega, HCr.out, HGr.out⟩

end Go.Proofs.YtoioiddjbanahaaGreatDoor

namespace Go.Proofs.YtoioiddjbanahaaGreatDoor

open Go.RowKit

theorem Cur.below {w0 : World} {a : Option Addr} {len cap b : Nat} {w w1 : World} (h : Cur w0 a len cap b w) (k : Below w.heap.size w w1) : Cur w0 a len cap b w1 := by
 have hlt := h.lt
 obtain ⟨hb, h2, i, x, h0, h1, hh⟩ := h
 exact ⟨hb, h2.trans (k.mono h2.size), i, x, h0, h1, (k.block b hlt).trans hh⟩

theorem snoc_byteT (acc : List UInt8) (x : UInt8) : Lib.byteCells acc ++ [.int .u8 x.toNat] = Lib.byteCells (acc ++ [x]) := by simp [Lib.byteCells]

theorem own_snocT {w : World} {B : Nat} {v : Value} {acc : List UInt8} {x : UInt8} (h : w.ownsRow B 5 1 v (acc.length + 1) (Lib.byteCells acc ++ [.int .u8 x.toNat])) : w.ownsRow B 5 1 v (acc ++ [x]).length (Lib.byteCells (acc ++ [x])) := by
 rw [<- snoc_byteT, List.length_append]
 exact h

set_option maxHeartbeats 2000000 in
theorem cText (signs : ByteArray) (most : Nat) (w0 : World) (a : Option Addr) (len cap b : Nat) (w : World) (hm0 : 1 <= most) (hm1 : most <= 256) (hg0 : 1 <= signs.size) (hg1 : signs.size <= 256) (hlen : len <= 4096) (hcr : CodeRow w0 a len) (hC : Cur w0 a len cap b w) :
  Calls Tryz.prog 92 #[.pointer (some ⟨b, 0, none⟩), .string signs, .int .i64 most] w fun e w' => ∃ t : ByteArray, e = .returned (.string t) /\ t.size < most /\ Cur w0 a len cap b w' /\ w.grownBy w' (some b) := by
 obtain ⟨i0, hi, hz0, hz1, hz2⟩ := info_parts info5d
 have HR : Hid (CodeRow w0 a len) := hcr
 have HC1 : Hid (Cur w0 a len cap b (w.alloc (.cells #[] 5))) := hC.alloc _
 have hw0 : w0.heap.size <= w.heap.size := hC.size
 have HO : Hid ((w.alloc (.cells #[] 5)).ownsRow w.heap.size 5 1 (.slice (some ⟨w.heap.size, 0, none⟩) 0 0) 0 []) := World.ownsRow_made w #[] 0 (Nat.le_refl _) (by decide) rfl
 have HG : Hid (w.grownBy (w.alloc (.cells #[] 5)) (some b)) := World.grownBy_alloc w _ _
 clear hC hcr
 go_enter Tryz.func92, Tryz.ntmps92
 go_wp2_with fail
 refine (cBelow most w0 a len cap b _ hlen HR.out HC1.out hm0 hm1).mono ?_
 rintro e w2 ⟨x0, rfl, hx0, hC2, hG2⟩
 have O2 := own_kept HC1.out HO.out hG2
 have HC2 : Hid (Cur w0 a len cap b w2) := hC2
 have HG2 : Hid (w.grownBy w2 (some b)) := gtrans HG.out hG2
 have HO2 : Hid (w2.ownsRow w.heap.size 5 1 (.slice (some ⟨w.heap.size, 0, none⟩) 0 0) 0 []) := O2
 clear O2 hC2 hG2 HC1 HG HO
 go_wp2_with fail
 go_loopw [7, 8] (fun v n wr => ∃ (m : Nat) (acc : List UInt8), n = .int .i64 m /\ acc.length + m < most /\ wr.ownsRow w.heap.size 5 1 v acc.length (Lib.byteCells acc) /\ Cur w0 a len cap b wr /\ w.grownBy wr (some b)) (fun _ n _ => (intOf n).toNat)
 case atStart => exact ⟨x0, [], rfl, by simpa using hx0, HO2.out, HC2.out, HG2.out⟩
 case round =>
  obtain ⟨m, acc, rfl, hm, hown, hCr, hGr⟩ := hrel
  by_cases hmp : 0 < m
  ·have hmb : decide ((0 : Int) < (m : Int)) = true := by simp; omega
   have HOr : Hid (wr.ownsRow w.heap.size 5 1 u7 acc.length (Lib.byteCells acc)) := hown
   have HCr : Hid (Cur w0 a len cap b wr) := hCr
   have HGr : Hid (w.grownBy wr (some b)) := hGr
   clear hown hCr hGr
   go_wp2_with fail
   refine (cBelow signs.size w0 a len cap b _ hlen HR.out HCr.out hg0 hg1).mono ?_
   rintro e w3 ⟨y, rfl, hy, hC3, hG3⟩
   have O3 := own_kept HCr.out HOr.out hG3
   have hs3 : w.heap.size <= w3.heap.size := Nat.le_trans HGr.out.size hG3.size
   go_wp2_with (at_builtin; refine wpList_append_own _ rfl _ _ 22 rfl w.heap.size 5 i0 (.int .u8 0) 1 1 Tryz.underlying22 hi hz0 hz1 hz2 rfl (by decide) _ _ _ rfl (O3.alloc _) ⟨w3.heap.size, 0, none⟩ 1 1 [.int .u8 (signs[y].toNat : Int)] rfl rfl (one_cell5 _ _) (ints_one [(signs[y].toNat : Int)]) (by unfold maxLen; omega) (by omega) (by simp; omega) ?_)
   intro v' w4 hown' hgrow _
   have R := own_snocT hown'
   have C4 := (hC3.alloc (.cells #[.int .u8 (signs[y].toNat : Int)] 5)).grown hgrow (fun e => (hC3.ne O3) e.symm) (own_ge (w1 := w4) O3 hw0)
   have G4 := g_row (g_row (gtrans HGr.out hG3) (World.grownBy_alloc w3 (.cells #[.int .u8 (signs[y].toNat : Int)] 5) none) (by simp)) hgrow (own_ge (w1 := w4) O3 (Nat.le_refl _))
   clear hown' hgrow O3 hC3 hG3
   go_wp2
   go_roundw
   case rel => exact ⟨m - 1, acc ++ [signs[y]], by go_num, by simp; omega, R, C4, G4⟩
   case measure => simp [intOf]; omega
  ·have hmb : decide ((0 : Int) < (m : Int)) = false := by simp; omega
   have hr := run_str_own (P := Tryz.prog) (src := 22) (dst := 9) Tryz.underlying22 Tryz.underlying5 Tryz.underlying9 hown
   clear hown
   go_wp2
   go_ret
   exact ⟨_, rfl, by show acc.toArray.size < most; simp; omega, hCr, hGr⟩

end Go.Proofs.YtoioiddjbanahaaGreatDoor

namespace Go.Proofs.YtoioiddjbanahaaGreatDoor

open Go.RowKit

structure DSt (w0 : World) (a : Option Addr) (len cap b : Nat) (w wr : World) (v : Value) (l : List At) : Prop where
 own : wr.ownsRow w.heap.size 67 2 v l.length (atC l)
 sz : AtSz 20 l
 cur : Cur w0 a len cap b wr
 gr : w.grownBy wr (some b)
 lt : b < w.heap.size
 le : w0.heap.size <= w.heap.size

section

variable {w0 : World} {a : Option Addr} {len cap b : Nat} {w wr : World} {v : Value} {l : List At}

theorem DSt.ne (h : DSt w0 a len cap b w wr v l) : v.ownBlock ≠ some b := fun e => by
 have := (h.own.lt b e).1
 have := h.lt
 omega

theorem DSt.draw {w1 : World} (h : DSt w0 a len cap b w wr v l) (hC : Cur w0 a len cap b w1) (g : wr.grownBy w1 (some b)) : DSt w0 a len cap b w w1 v l :=
 ⟨h.own.kept g (Or.inr h.ne), h.sz, hC, gtrans h.gr g, h.lt, h.le⟩

theorem DSt.alloc (h : DSt w0 a len cap b w wr v l) (o : Obj) : DSt w0 a len cap b w (wr.alloc o) v l :=
 h.draw (h.cur.alloc o) (World.grownBy_alloc wr o _)

theorem DSt.drewN (h : DSt w0 a len cap b w wr v l) (n : Nat) : DSt w0 a len cap b w (wr.drewN n) v l :=
 ⟨h.own, h.sz, h.cur.drewN n, g_drewN h.gr n, h.lt, h.le⟩

theorem g_later {w1 : World} {g : Nat} (h : w.grownBy wr (some b)) (k : wr.grownBy w1 (some g)) (hg : w.heap.size <= g) : w.grownBy w1 (some b) :=
 ⟨k.os.trans h.os, k.tape.trans h.tape, k.output.trans h.output, Nat.le_trans h.size k.size, fun i hi hr => (k.block i (Nat.lt_of_lt_of_le hi h.size) (fun e => by cases e; omega)).trans (h.block i hi hr)⟩

theorem DSt.set (h : DSt w0 a len cap b w wr v l) {g : Nat} (hg : w.heap.size <= g) (hne : ¬ v.ownBlock = some g) (j : Nat) (x : Value) : DSt w0 a len cap b w (wr.setCell ⟨g, j, none⟩ x) v l :=
 ⟨h.own.kept (Lib.grownBy_setCell wr g j x) (Or.inr hne), h.sz, h.cur.grown (Lib.grownBy_setCell wr g j x) (fun e => by cases e; have := h.lt; omega) (fun k e => by cases e; have := h.le; omega), g_later h.gr (Lib.grownBy_setCell wr g j x) hg, h.lt, h.le⟩

theorem DSt.join {w1 : World} {v' : Value} {m : List At} (h : DSt w0 a len cap b w wr v l) (hm : AtSz 20 m) (ho : w1.ownsRow w.heap.size 67 2 v' (l.length + m.length) (atC l ++ atC m)) (g : wr.grownBy w1 v.ownBlock) : DSt w0 a len cap b w w1 v' (l ++ m) := by
 have e : atC (l ++ m) = atC l ++ atC m := by unfold atC; rw [List.flatMap_append]
 refine ⟨by rw [List.length_append, e]; exact ho, fun x hx => ?_, h.cur.grown g (fun x => h.ne x.symm) (fun k x => by have := (h.own.lt k x).1; have := h.le; omega), ?_, h.lt, h.le⟩
 ·rcases List.mem_append.1 hx with h' | h'
  ·exact h.sz x h'
  ·exact hm x h'
 ·exact ⟨g.os.trans h.gr.os, g.tape.trans h.gr.tape, g.output.trans h.gr.output, Nat.le_trans h.gr.size g.size, fun i hi hr => (g.block i (Nat.lt_of_lt_of_le hi h.gr.size) (fun x => by have := (h.own.lt i x.symm).1; omega)).trans (h.gr.block i hi hr)⟩

theorem DSt.row (h : DSt w0 a len cap b w wr v l) : ∃ a' c', v = .slice a' l.length c' /\ OwnAts wr w.heap.size a' l := by
 rcases h.own.2 with ⟨rfl, h0⟩ | ⟨g, cp, cur, rfl, hg, hh, hn, hc, hs, ht⟩
 ·exact ⟨none, 0, by rw [h0], fun hl => by omega⟩
 ·refine ⟨_, _, rfl, fun _ => ⟨g, 0, cur, rfl, hg, hh, fun j hj => ?_⟩⟩
  obtain ⟨g1, g2⟩ := atC_get l j hj
  rw [<- ht, List.getElem?_take] at g1 g2
  refine ⟨?_, ?_⟩
  ·rw [Nat.zero_add, <- Array.getElem?_toList]
   split at g1
   ·exact g1
   ·cases g1
  ·rw [Nat.zero_add, <- Array.getElem?_toList]
   split at g2
   ·exact g2
   ·cases g2

end

def tabA : Obj := .cells #[.string ⟨#[97]⟩, .string ⟨#[120]⟩, .string ⟨#[112, 58, 97]⟩, .string ⟨#[113, 58, 97]⟩, .string ⟨#[112, 58, 120]⟩, .string ⟨#[110, 115]⟩, .string ⟨#[110, 115, 58, 112]⟩, .string ⟨#[73, 100]⟩] 9 (0, 0)

theorem tabA_at (w : World) (B x : Nat) (hx : x < 8) (h : w.heap[B]? = some tabA) : ∃ t : ByteArray, w.cell? ⟨B, x, none⟩ = some (.string t) /\ t.size <= 7 := by
 rw [Lib.cell_of_heap h]
 rcases (show x = 0 \/ x = 1 \/ x = 2 \/ x = 3 \/ x = 4 \/ x = 5 \/ x = 6 \/ x = 7 from by omega) with rfl | rfl | rfl | rfl | rfl | rfl | rfl | rfl
 all_goals exact ⟨_, rfl, by decide⟩

end Go.Proofs.YtoioiddjbanahaaGreatDoor
