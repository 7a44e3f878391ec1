/- Contract of the drawing function that bends a text: it answers some text, at most two bytes longer; nothing that was there turns but the cursor's block. Contracts of the draws of a text: of given signs, or of whatever bytes; shorter than what was asked. Contracts of the draws of a great number below another; the bytes that a draw is made of. -/
import Derived.Test.YtgdfeicojgnoaaaGreatDoorRows
import Derived.Test.YtgdfeicojgnoaaaGreatDoorM1
import Derived.Test.YtgdfeicojgnoaaaGreatDoorM14
import Derived.WalkKit
import Derived.OwnWalk
import Derived.Laws.IdiomStrings
import Derived.Deep.RegionLaw
import Derived.Deep.QuietTactic
import Derived.BigQuiet
import Derived.OpenShut
namespace Go.Proofs.YtgdfeicojgnoaaaGreatDoor
open Go.RowKit
set_option linter.unusedVariables false
set_option linter.unusedSimpArgs false

/-- append onto a row of the call's own, as one step of a region that draws its order. -/
theorem step_append_own {P : Program} {ops : Array Oper} {o : Oper} {a : Act} {w : World} {K : Act → World → Prop} {Q : Exit → Act → World → Prop} {E : Prop}
    (hg : o.guard = none) (s x : Operand) (t : TypeId) (hop : o.op = Op.call { callee := Callee.builtin Builtin.append, args := #[s, x], argTypes := #[t, t] })
    (base : Nat) (e : TypeId) (i : TypeInfo) (z : Value) (size bytes : Nat) (h1 : P.underlying t = some (.slice e)) (h2 : P.info? e = some i) (h3 : i.zero = some z) (h4 : i.size = size) (h5 : i.bytes = bytes) (h6 : z.cells.size = size) (h7 : 0 < size)
    (v : Value) (n : Nat) (xs : List Value) (hs : a.eval s = v) (hown : w.ownsRow base e size v n xs)
    (ad : Addr) (m c : Nat) (news : List Value) (hx : a.eval x = .slice (some ad) m c) (hn : news.length = m * size) (hc : ∀ j u, news[j]? = some u → w.cell? (ad.add j) = some u) (h1c : ∀ u ∈ news, u.oneCell' = true)
    (b1 : n + m ≤ maxLen) (b2 : (n + m) * bytes ≤ 140737488355328) (b3 : base ≤ w.heap.size)
    (hK : ∀ v' w', w'.ownsRow base e size v' (n + m) (xs ++ news) → w.grownBy w' v.ownBlock → (v' = .slice none 0 0 ↔ v = .slice none 0 0 ∧ m = 0) → K (a.put o.dst v') w') :
    if Region.wanted o (yielded ops a.tmps) = true then Oper.wp P o a w K Q else E := by
  have hw : Region.wanted o (yielded ops a.tmps) = true := by simp [Region.wanted, hg]
  rw [if_pos hw]
  obtain ⟨v', w', hrun, r1, r2, r3⟩ := run_append_own (P := P) w base t o.type e i z size bytes h1 h2 h3 h4 h5 h6 h7 v n xs hown ad m c news hn hc h1c b1 b2 b3
  unfold Oper.wp
  simp [execOp, hop, resolve, invoke, builtin, hs, hx, hrun, Result.andThen]
  exact hK v' w' r1 r2 r3

/-- A slice of bytes of the call's own, from block B on, not the cursor's. -/
def Row (B b : Nat) (w : World) (v : Value) (n : Nat) : Prop :=
  ∃ g cap, ∃ xs : List Int, v = .slice (some ⟨g, 0, none⟩) n cap ∧ B ≤ g ∧ g < w.heap.size ∧ g ≠ b ∧ n ≤ cap ∧ cap ≤ maxLen ∧ xs.length = n ∧
    (∀ j, j < n → w.cell? ⟨g, j, none⟩ = some (.int .u8 (xs.getD j 0))) ∧ ∀ j, j < n → w.frozen? ⟨g, j, none⟩ = false

theorem Row.kept {B b : Nat} {w w1 : World} {v : Value} {n : Nat} (h : Row B b w v n) (g1 : w.grownBy w1 (some b)) : Row B b w1 v n := by
  obtain ⟨g, cap, xs, hv, hB, hlt, hne, hn, hm, hx, hc, hf⟩ := h
  have hb := g1.block g hlt (by simpa using hne)
  exact ⟨g, cap, xs, hv, hB, Nat.lt_of_lt_of_le hlt g1.size, hne, hn, hm, hx, fun j hj => (World.cell?_of_block (a := ⟨g, j, none⟩) hb).trans (hc j hj), fun j hj => (World.frozen?_of_block (a := ⟨g, j, none⟩) hb).trans (hf j hj)⟩

theorem Row.of_own {B b : Nat} {w : World} {v : Value} {n : Nat} {zs : List Int} (h : w.ownsRow B 5 1 v n (zs.map (Value.int .u8))) (hnn : v ≠ .slice none 0 0) (hb : v.ownBlock ≠ some b) : Row B b w v n := by
  have hl := h.1
  rcases h.2 with ⟨h0, _⟩ | ⟨g, cap, cur, hv, hB, hh, hn, hm, hcs, ht⟩
  · exact absurd h0 hnn
  · have hb' : g ≠ b := by
      intro e
      rw [hv] at hb
      exact hb (by simp [Value.ownBlock, e])
    have hl' : zs.length = n := by simpa using hl
    refine ⟨g, cap, zs, hv, hB, lt_of_heap hh, hb', hn, hm, hl', fun j hj => ?_, fun j hj => Lib.frozen_of_heap hh j⟩
    have := h.cells (g := g) (by rw [hv]; rfl) j (.int .u8 (zs.getD j 0)) (by
      have hj' : j < zs.length := by omega
      simp [List.getD, hj'])
    have hplain : (⟨g, 0, none⟩ : Addr).add j = ⟨g, j, none⟩ := by unfold Addr.add; split <;> simp_all
    rw [hplain] at this
    exact this

theorem ints_one (zs : List Int) : ∀ u ∈ zs.map (Value.int .u8), u.oneCell' = true := by
  intro u hu
  obtain ⟨x, _, rfl⟩ := List.mem_map.1 hu
  rfl

theorem add_at (g o j : Nat) : (⟨g, o, none⟩ : Addr).add j = ⟨g, o + j, none⟩ := by unfold Addr.add; split <;> simp_all

theorem info5d : (Tryz.prog.info? 5).map (fun i => (i.zero, i.size, i.bytes)) = some (some (.int .u8 0), 1, 1) := by kernel_rfl

theorem g_row {w w1 w2 : World} {b : Nat} {row : Option Nat} (h : w.grownBy w1 (some b)) (k : w1.grownBy w2 row) (hr : ∀ x, row = some x → w.heap.size ≤ x) : w.grownBy w2 (some b) :=
  ⟨k.os.trans h.os, k.tape.trans h.tape, k.output.trans h.output, Nat.le_trans h.size k.size, fun i hi hb => (k.block i (Nat.lt_of_lt_of_le hi h.size) (fun e => by have := hr i e.symm; omega)).trans (h.block i hi hb)⟩

theorem Row.set {B b g cap n : Nat} {w : World} {xs : List Int} (hB : B ≤ g) (hlt : g < w.heap.size) (hne : g ≠ b) (hn : n ≤ cap) (hm : cap ≤ maxLen) (hx : xs.length = n)
    (hc : ∀ j, j < n → w.cell? ⟨g, j, none⟩ = some (.int .u8 (xs.getD j 0))) (hf : ∀ j, j < n → w.frozen? ⟨g, j, none⟩ = false) (k : Nat) (hk : k < n) (c : Int) :
    Row B b (w.setCell ⟨g, k, none⟩ (.int .u8 c)) (.slice (some ⟨g, 0, none⟩) n cap) n := by
  refine ⟨g, cap, xs.set k c, rfl, hB, by simpa [World.setCell] using hlt, hne, hn, hm, by simpa using hx, fun j hj => ?_, fun j hj => ?_⟩
  · by_cases h : j = k
    · subst h
      rw [World.cell?_setCell_same _ _ _ (by rw [hc j hj])]
      simp [List.getD, List.getElem?_set, hx, hk]
    · rw [World.cell?_setCell_other _ _ _ _ (by simp [Ne.symm h]), hc j hj]
      simp [List.getD, List.getElem?_set, Ne.symm h]
  · rw [World.frozen?_setCell]
    exact hf j hj

theorem Row.cut {B b : Nat} {w : World} {n g cap : Nat} (h : Row B b w (.slice (some ⟨g, 0, none⟩) n cap) n) (k : Nat) (hk : k ≤ n) : Row B b w (.slice (some ⟨g, 0, none⟩) k cap) k := by
  obtain ⟨g', cap', xs, hv, hB, hlt, hne, hn, hm, hx, hc, hf⟩ := h
  injection hv with e1 e2 e3
  injection e1 with e1
  injection e1 with e1
  subst e1 e3
  refine ⟨g, cap, xs.take k, rfl, hB, hlt, hne, by omega, hm, by simp; omega, fun j hj => ?_, fun j hj => hf j (by omega)⟩
  rw [hc j (by omega)]
  simp [List.getD, List.getElem?_take, hj]

theorem sl_pre (g L cap k : Nat) (h : k ≤ cap) (hc : ¬ cap = 0) (W : World) : (Instr.slice 22 (.slice (some ⟨g, 0, none⟩) L cap) none (some (.int .i64 k)) none).run Tryz.prog W = .ok (.slice (some ⟨g, 0, none⟩) k cap) W := by
  have h' : (k : Int) ≤ cap := by omega
  go_simp

theorem sl_suf (g L cap k : Nat) (h : k ≤ L) (hL : L ≤ cap) (W : World) : (Instr.slice 22 (.slice (some ⟨g, 0, none⟩) L cap) (some (.int .i64 k)) none none).run Tryz.prog W = .ok (.slice (some (if cap = k then ⟨g, 0, none⟩ else ⟨g, k, none⟩)) (L - k) (cap - k)) W := by
  have h' : (k : Int) ≤ L := by omega
  have h2 : (L : Int) ≤ cap := by omega
  go_simp
  by_cases e : cap = k <;> simp [e, Addr.add]

/-- Where a rest of the row begins. -/
theorem suf_addr (g L cap k : Nat) (hL : L ≤ cap) : ∃ A : Addr, (if cap = k then (⟨g, 0, none⟩ : Addr) else ⟨g, k, none⟩) = A ∧ ∀ j, j < L - k → A.add j = ⟨g, k + j, none⟩ := by
  refine ⟨_, rfl, fun j hj => ?_⟩
  rw [if_neg (by omega), add_at]

/-- The new empty slice, and a draw. -/
def bare (w : World) : World := w.drew.alloc (.cells #[] 5)

theorem own_bare (w : World) (B : Nat) (hB : B ≤ w.heap.size) : (bare w).ownsRow B 5 1 (.slice (some ⟨w.heap.size, 0, none⟩) 0 0) 0 [] :=
  World.ownsRow_made w.drew #[] 0 hB (by decide) rfl

theorem cell_bare (w : World) (g j : Nat) (h : g < w.heap.size) : (bare w).cell? ⟨g, j, none⟩ = w.cell? ⟨g, j, none⟩ :=
  World.cell?_of_block (a := ⟨g, j, none⟩) (Lib.alloc_old w.drew _ g h)

theorem grown_bare (w : World) (row : Option Nat) : w.grownBy (bare w) row := by
  have gg := World.grownBy_alloc w.drew (.cells #[] 5) row
  exact ⟨gg.os, gg.tape, gg.output, gg.size, gg.block⟩

theorem src_pre {w : World} {g L k : Nat} {xs : List Int} (hx : xs.length = L) (hk : k ≤ L) (hc : ∀ j, j < L → w.cell? ⟨g, j, none⟩ = some (.int .u8 (xs.getD j 0))) :
    ∀ j u, ((xs.take k).map (Value.int .u8))[j]? = some u → w.cell? ((⟨g, 0, none⟩ : Addr).add j) = some u := by
  intro j u hj
  have hjk : j < k := by
    rcases Nat.lt_or_ge j k with h | h
    · exact h
    · rw [List.getElem?_eq_none (by simp; omega)] at hj; simp at hj
  rw [add_at, Nat.zero_add, hc j (by omega)]
  have hjl : j < xs.length := by omega
  simp [List.getElem?_take, hjk, hjl] at hj
  simp [List.getD, hjl, hj]

theorem src_suf {w : World} {g L k : Nat} {xs : List Int} {A : Addr} (hx : xs.length = L) (hA : ∀ j, j < L - k → A.add j = ⟨g, k + j, none⟩) (hc : ∀ j, j < L → w.cell? ⟨g, j, none⟩ = some (.int .u8 (xs.getD j 0))) :
    ∀ j u, ((xs.drop k).map (Value.int .u8))[j]? = some u → w.cell? (A.add j) = some u := by
  intro j u hj
  have hjk : j < L - k := by
    rcases Nat.lt_or_ge j (L - k) with h | h
    · exact h
    · rw [List.getElem?_eq_none (by simp; omega)] at hj; simp at hj
  have hjl : k + j < xs.length := by omega
  rw [hA j hjk, hc (k + j) (by omega)]
  simp [List.getElem?_drop, hjl] at hj
  simp [List.getD, hjl, hj]

/-- A block that is not the row's own stands behind an append. -/
theorem cell_grown {w w1 : World} {v : Value} {B n : Nat} {ys : List Value} (ho : w.ownsRow B 5 1 v n ys) (hg : w.grownBy w1 v.ownBlock) {g L : Nat} {xs : List Int} (hgl : g < w.heap.size) (hne : some g ≠ v.ownBlock)
    (hc : ∀ j, j < L → w.cell? ⟨g, j, none⟩ = some (.int .u8 (xs.getD j 0))) : ∀ j, j < L → w1.cell? ⟨g, j, none⟩ = some (.int .u8 (xs.getD j 0)) := fun j hj =>
  (World.cell?_of_block (a := ⟨g, j, none⟩) (hg.block g hgl hne)).trans (hc j hj)

theorem one_cell5 (w : World) (v : Value) : ∀ j u, [v][j]? = some u → (w.alloc (.cells #[v] 5)).cell? ((⟨w.heap.size, 0, none⟩ : Addr).add j) = some u := by
  intro j u hj
  match j, hj with
  | 0, hj => simp at hj; subst hj; simp [Addr.add]

theorem Row.mono {B B1 b : Nat} {w : World} {v : Value} {n : Nat} (h : Row B b w v n) (hB : B1 ≤ B) : Row B1 b w v n := by
  obtain ⟨g, cap, xs, hv, hg, r⟩ := h
  exact ⟨g, cap, xs, hv, Nat.le_trans hB hg, r⟩

theorem cells3 {w4 W1 W2 W3 : World} {b g L : Nat} {xs : List Int} {v1 : Value} {n : Nat} {ys : List Value} {o : Obj} (hg4 : g < w4.heap.size) (hgb : g ≠ b) (hs : w4.heap.size ≤ W1.heap.size)
    (hc : ∀ j, j < L → W1.cell? ⟨g, j, none⟩ = some (.int .u8 (xs.getD j 0))) (hG : W1.grownBy W2 (some b)) (hown1 : W1.ownsRow w4.heap.size 5 1 v1 n ys) (h3 : (W2.alloc o).grownBy W3 v1.ownBlock) :
    ∀ j, j < L → W3.cell? ⟨g, j, none⟩ = some (.int .u8 (xs.getD j 0)) := fun j hj => by
  have h2 : g < W2.heap.size := by have := hG.size; omega
  have e3 := h3.block g (by simp; omega) (fun e => by have := (hown1.lt g e.symm).1; omega)
  have e2 := Lib.alloc_old W2 o g h2
  have e1 := hG.block g (by omega) (by simpa using hgb)
  exact (World.cell?_of_block (a := ⟨g, j, none⟩) (e3.trans (e2.trans e1))).trans (hc j hj)

theorem Cur.bare {w0 : World} {a : Option Addr} {len cap b : Nat} {w : World} (h : Cur w0 a len cap b w) : Cur w0 a len cap b (bare w) := h.grown (grown_bare w none) (by simp) (by simp)

theorem own_ge {w w1 : World} {B B0 : Nat} {v : Value} {n : Nat} {xs : List Value} (h : w.ownsRow B 5 1 v n xs) (hB : B0 ≤ B) : ∀ k, v.ownBlock = some k → B0 ≤ k := fun k hk => Nat.le_trans hB (h.lt k hk).1

end Go.Proofs.YtgdfeicojgnoaaaGreatDoor

namespace Go.Proofs.YtgdfeicojgnoaaaGreatDoor
open Go.RowKit
set_option linter.unusedVariables false
set_option linter.unusedSimpArgs false

theorem Cur.below {w0 : World} {a : Option Addr} {len cap b : Nat} {w w1 : World} (h : Cur w0 a len cap b w) (k : Below w.heap.size w w1) : Cur w0 a len cap b w1 := by
  have hlt := h.lt
  obtain ⟨hb, h2, i, x, h0, h1, hh⟩ := h
  exact ⟨hb, h2.trans (k.mono h2.size), i, x, h0, h1, (k.block b hlt).trans hh⟩

theorem snoc_byteT (acc : List UInt8) (x : UInt8) : Lib.byteCells acc ++ [.int .u8 x.toNat] = Lib.byteCells (acc ++ [x]) := by simp [Lib.byteCells]

theorem own_snocT {w : World} {B : Nat} {v : Value} {acc : List UInt8} {x : UInt8} (h : w.ownsRow B 5 1 v (acc.length + 1) (Lib.byteCells acc ++ [.int .u8 x.toNat])) : w.ownsRow B 5 1 v (acc ++ [x]).length (Lib.byteCells (acc ++ [x])) := by
  rw [← snoc_byteT, List.length_append]
  exact h

set_option maxHeartbeats 2000000 in
theorem cText (signs : ByteArray) (most : Nat) (w0 : World) (a : Option Addr) (len cap b : Nat) (w : World) (hm0 : 1 ≤ most) (hm1 : most ≤ 256) (hg0 : 1 ≤ signs.size) (hg1 : signs.size ≤ 256) (hlen : len ≤ 4096) (hcr : CodeRow w0 a len) (hC : Cur w0 a len cap b w) :
    Calls Tryz.prog 28 #[.pointer (some ⟨b, 0, none⟩), .string signs, .int .i64 most] w fun e w' => ∃ t : ByteArray, e = .returned (.string t) ∧ t.size < most ∧ Cur w0 a len cap b w' ∧ w.grownBy w' (some b) := by
  obtain ⟨i0, hi, hz0, hz1, hz2⟩ := info_parts info5d
  have HR : Hid (CodeRow w0 a len) := hcr
  have HC1 : Hid (Cur w0 a len cap b (w.alloc (.cells #[] 5))) := hC.alloc _
  have hw0 : w0.heap.size ≤ w.heap.size := hC.size
  have HO : Hid ((w.alloc (.cells #[] 5)).ownsRow w.heap.size 5 1 (.slice (some ⟨w.heap.size, 0, none⟩) 0 0) 0 []) := World.ownsRow_made w #[] 0 (Nat.le_refl _) (by decide) rfl
  have HG : Hid (w.grownBy (w.alloc (.cells #[] 5)) (some b)) := World.grownBy_alloc w _ _
  clear hC hcr
  go_enter Tryz.func28, Tryz.ntmps28
  go_wp2_with fail
  refine (cBelow most w0 a len cap b _ hlen HR.out HC1.out hm0 hm1).mono ?_
  rintro e w2 ⟨x0, rfl, hx0, hC2, hG2⟩
  have O2 := own_kept HC1.out HO.out hG2
  have HC2 : Hid (Cur w0 a len cap b w2) := hC2
  have HG2 : Hid (w.grownBy w2 (some b)) := gtrans HG.out hG2
  have HO2 : Hid (w2.ownsRow w.heap.size 5 1 (.slice (some ⟨w.heap.size, 0, none⟩) 0 0) 0 []) := O2
  clear O2 hC2 hG2 HC1 HG HO
  go_wp2_with fail
  go_loopw [7, 8] (fun v n wr => ∃ (m : Nat) (acc : List UInt8), n = .int .i64 m ∧ acc.length + m < most ∧ wr.ownsRow w.heap.size 5 1 v acc.length (Lib.byteCells acc) ∧ Cur w0 a len cap b wr ∧ w.grownBy wr (some b)) (fun _ n _ => (intOf n).toNat)
  case atStart => exact ⟨x0, [], rfl, by simpa using hx0, HO2.out, HC2.out, HG2.out⟩
  case round =>
    obtain ⟨m, acc, rfl, hm, hown, hCr, hGr⟩ := hrel
    by_cases hmp : 0 < m
    · have hmb : decide ((0 : Int) < (m : Int)) = true := by simp; omega
      have HOr : Hid (wr.ownsRow w.heap.size 5 1 u7 acc.length (Lib.byteCells acc)) := hown
      have HCr : Hid (Cur w0 a len cap b wr) := hCr
      have HGr : Hid (w.grownBy wr (some b)) := hGr
      clear hown hCr hGr
      go_wp2_with fail
      refine (cBelow signs.size w0 a len cap b _ hlen HR.out HCr.out hg0 hg1).mono ?_
      rintro e w3 ⟨y, rfl, hy, hC3, hG3⟩
      have O3 := own_kept HCr.out HOr.out hG3
      have hs3 : w.heap.size ≤ w3.heap.size := Nat.le_trans HGr.out.size hG3.size
      go_wp2_with (at_builtin; refine wpList_append_own _ rfl _ _ 22 rfl w.heap.size 5 i0 (.int .u8 0) 1 1 Tryz.underlying22 hi hz0 hz1 hz2 rfl (by decide) _ _ _ rfl (O3.alloc _) ⟨w3.heap.size, 0, none⟩ 1 1 [.int .u8 (signs[y].toNat : Int)] rfl rfl (one_cell5 _ _) (ints_one [(signs[y].toNat : Int)]) (by unfold maxLen; omega) (by omega) (by simp; omega) ?_)
      intro v' w4 hown' hgrow _
      have R := own_snocT hown'
      have C4 := (hC3.alloc (.cells #[.int .u8 (signs[y].toNat : Int)] 5)).grown hgrow (fun e => (hC3.ne O3) e.symm) (own_ge (w1 := w4) O3 hw0)
      have G4 := g_row (g_row (gtrans HGr.out hG3) (World.grownBy_alloc w3 (.cells #[.int .u8 (signs[y].toNat : Int)] 5) none) (by simp)) hgrow (own_ge (w1 := w4) O3 (Nat.le_refl _))
      clear hown' hgrow O3 hC3 hG3
      go_wp2
      go_roundw
      case rel => exact ⟨m - 1, acc ++ [signs[y]], by go_num, by simp; omega, R, C4, G4⟩
      case measure => simp [intOf]; omega
    · have hmb : decide ((0 : Int) < (m : Int)) = false := by simp; omega
      have hr := run_str_own (P := Tryz.prog) (src := 22) (dst := 9) Tryz.underlying22 Tryz.underlying5 Tryz.underlying9 hown
      clear hown
      go_wp2
      go_ret
      exact ⟨_, rfl, by show acc.toArray.size < most; simp; omega, hCr, hGr⟩

theorem byte_of (x : Int) (h0 : 0 ≤ x) (h1 : x ≤ 255) : ((UInt8.ofNat x.toNat).toNat : Int) = x := by
  have : x.toNat < 256 := by omega
  rw [UInt8.toNat_ofNat_of_lt' (by exact this)]
  omega

end Go.Proofs.YtgdfeicojgnoaaaGreatDoor

namespace Go.Proofs.YtgdfeicojgnoaaaGreatDoor
open Go.RowKit
set_option linter.unusedVariables false
set_option linter.unusedSimpArgs false

theorem code_of {w : World} {a : Option Addr} {len cap : Nat} {zs : List Int}
    (h : (a = none ∧ len = 0 ∧ cap = 0 ∧ zs = []) ∨ ∃ x, a = some x ∧ len ≤ cap ∧ cap ≤ maxLen ∧ zs.length = cap ∧ (∀ i, i < zs.length → w.cell? (x.add i) = some (.int .u8 (zs.getD i 0))) ∧ ∀ n ∈ zs, (Lit.int .u8 n).wf = true) : CodeRow w a len := by
  rcases h with ⟨_, h, _⟩ | ⟨x, rfl, hl, _, hz, hc, _⟩
  · exact .inl h
  · by_cases h0 : len = 0
    · exact .inl h0
    · obtain ⟨cb, co, rfl, hcells⟩ := ints_at hc (by omega)
      refine .inr ⟨cb, co, fun j => zs.getD j 0, rfl, ?_, fun j hj => hcells j (by omega)⟩
      have h1 := hcells 0 (by omega)
      rcases Nat.lt_or_ge cb w.heap.size with h' | h'
      · exact h'
      · simp [World.cell?, Array.getElem?_eq_none h'] at h1

theorem code_below {w w2 : World} {a : Option Addr} {len : Nat} (h : CodeRow w a len) (hb : Below w.heap.size w w2) : CodeRow w2 a len := by
  rcases h with h | ⟨cb, co, z, h1, h2, h3⟩
  · exact .inl h
  · exact .inr ⟨cb, co, z, h1, Nat.lt_of_lt_of_le h2 hb.size, fun j hj => (hb.cell (p := ⟨cb, co + j, none⟩) h2).trans (h3 j hj)⟩

theorem bt {w a b : World} (h : Below w.heap.size w a) (k : Below a.heap.size a b) : Below w.heap.size w b := h.trans (k.mono h.size)

theorem cBig_no (a : Option Addr) (len cap : Nat) (w : World) (h : len ≤ 4096) : Calls Tryz.prog 5 #[.slice a len cap] w fun e w' => e = .returned (.bool false) ∧ w' = w := by
  have h1 : decide ((4096 : Int) < (len : Int)) = false := by simp; omega
  go_enter Tryz.func5, Tryz.ntmps5
  go_wp2
  go_ret
  exact ⟨rfl, rfl⟩

theorem cBig_yes (a : Option Addr) (len cap : Nat) (w : World) (h : ¬ len ≤ 4096) : Calls Tryz.prog 5 #[.slice a len cap] w fun e w' => e = .returned (.bool true) ∧ w' = w := by
  have h1 : decide ((4096 : Int) < (len : Int)) = true := by simp; omega
  go_enter Tryz.func5, Tryz.ntmps5
  go_wp2
  go_ret
  exact ⟨rfl, rfl⟩

theorem four_wrap (x y z u : Int) (hx : 0 ≤ x ∧ x ≤ 255) (hy : 0 ≤ y ∧ y ≤ 255) (hz : 0 ≤ z ∧ z ≤ 255) (hu : 0 ≤ u ∧ u ≤ 255) :
    IntKind.i64.wrap (x * 16777216) = x * 16777216 ∧ IntKind.i64.wrap (y * 65536) = y * 65536 ∧ IntKind.i64.wrap (x * 16777216 + y * 65536) = x * 16777216 + y * 65536 ∧ IntKind.i64.wrap (z * 256) = z * 256
    ∧ IntKind.i64.wrap (x * 16777216 + y * 65536 + z * 256) = x * 16777216 + y * 65536 + z * 256 ∧ IntKind.i64.wrap (x * 16777216 + y * 65536 + z * 256 + u) = x * 16777216 + y * 65536 + z * 256 + u := by
  refine ⟨?_, ?_, ?_, ?_, ?_, ?_⟩ <;> exact IntWalk.i64_in _ (by omega)

theorem mod_nat (s : Int) (n : Nat) (h0 : 0 ≤ s) (hn : 1 ≤ n) : s.tmod (n : Int) = ((s.toNat % n : Nat) : Int) ∧ s % (n : Int) = ((s.toNat % n : Nat) : Int) := by
  obtain ⟨k, rfl⟩ : ∃ k : Nat, s = k := ⟨s.toNat, by omega⟩
  refine ⟨?_, ?_⟩
  · rw [Int.tmod_eq_emod_of_nonneg h0]; simp
  · simp

set_option maxHeartbeats 2000000 in
/-- A number below n, which is greater than 256. -/
theorem cBelowBig (n : Nat) (w0 : World) (a : Option Addr) (len cap b : Nat) (w : World) (hlen : len ≤ 4096) (hcr : CodeRow w0 a len) (hC : Cur w0 a len cap b w) (hn0 : 257 ≤ n) (hn1 : n ≤ 4294967296) :
    Calls Tryz.prog 25 #[.pointer (some ⟨b, 0, none⟩), .int .i64 n] w fun e w' => ∃ x : Nat, e = .returned (.int .i64 x) ∧ x < n ∧ Cur w0 a len cap b w' ∧ w.grownBy w' (some b) := by
  have HR : Hid (CodeRow w0 a len) := hcr
  have HC : Hid (Cur w0 a len cap b w) := hC
  clear hC hcr
  have hz : ¬ (n : Int) = 0 := by omega
  have d1 : decide ((n : Int) ≤ 0) = false := by simp; omega
  have d2 : decide ((n : Int) ≤ 256) = false := by simp; omega
  go_enter Tryz.func25, Tryz.ntmps25
  go_wp2_with fail
  refine (cByte w0 a len cap b _ hlen HR.out HC.out).mono ?_
  rintro e w1 ⟨x, rfl, hx0, hx1, hC1, hg1⟩
  have HC1 : Hid (Cur w0 a len cap b w1) := hC1
  have HG : Hid (w.grownBy w1 (some b)) := hg1
  clear hC1 hg1
  go_wp2_with fail
  refine (cByte w0 a len cap b _ hlen HR.out HC1.out).mono ?_
  rintro e w2 ⟨y, rfl, hy0, hy1, hC2, hg2⟩
  have HC2 : Hid (Cur w0 a len cap b w2) := hC2
  have HG2 : Hid (w.grownBy w2 (some b)) := gtrans HG.out hg2
  clear hC2 hg2
  go_wp2_with fail
  refine (cByte w0 a len cap b _ hlen HR.out HC2.out).mono ?_
  rintro e w3 ⟨z, rfl, hz0, hz1, hC3, hg3⟩
  have HC3 : Hid (Cur w0 a len cap b w3) := hC3
  have HG3 : Hid (w.grownBy w3 (some b)) := gtrans HG2.out hg3
  clear hC3 hg3
  go_wp2_with fail
  refine (cByte w0 a len cap b _ hlen HR.out HC3.out).mono ?_
  rintro e w4 ⟨u, rfl, hu0, hu1, hC4, hg4⟩
  have HC4 : Hid (Cur w0 a len cap b w4) := hC4
  have HG4 : Hid (w.grownBy w4 (some b)) := gtrans HG3.out hg4
  clear hC4 hg4
  obtain ⟨k1, k2, k3, k4, k5, k6⟩ := four_wrap x y z u ⟨hx0, hx1⟩ ⟨hy0, hy1⟩ ⟨hz0, hz1⟩ ⟨hu0, hu1⟩
  obtain ⟨s, hs⟩ : ∃ s : Int, x * 16777216 + y * 65536 + z * 256 + u = s := ⟨_, rfl⟩
  have hs0 : 0 ≤ s := by omega
  rw [hs] at k6
  obtain ⟨m1, m2⟩ := mod_nat s n hs0 (by omega)
  have hlt : s.toNat % n < n := Nat.mod_lt _ (by omega)
  obtain ⟨r, hr⟩ : ∃ r : Nat, s.toNat % n = r := ⟨_, rfl⟩
  rw [hr] at m1 m2 hlt
  clear hx0 hx1 hy0 hy1 hz0 hz1 hu0 hu1 hr
  go_wp2_with fail
  go_ret
  refine ⟨r, ?_, hlt, HC4.out, HG4.out⟩
  first | rfl | (rw [← m2]; rfl) | (rw [← m1]; rfl) | simp [m1, m2]

end Go.Proofs.YtgdfeicojgnoaaaGreatDoor
