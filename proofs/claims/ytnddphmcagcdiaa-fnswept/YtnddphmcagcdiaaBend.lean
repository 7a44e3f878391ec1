/- Contract of the drawing function that bends a text: it answers some text, at most two bytes longer; nothing that was there turns but the cursor's block. -/
import Derived.Test.YtnddphmcagcdiaaRows
import Derived.Test.YtnddphmcagcdiaaKit
import Derived.Test.YtnddphmcagcdiaaDraw
import Derived.WalkKit
import Derived.OwnWalk
import Derived.Laws.IdiomStrings
import Derived.Deep.RegionLaw
import Derived.Deep.QuietTactic
import Derived.BigQuiet
namespace Go.Proofs.Ytnddphmcagcdiaa
open Go.RowKit
set_option linter.unusedVariables false
set_option linter.unusedSimpArgs false

/-- append onto a row of the call's own, as one step of a region that draws its order. -/
theorem step_append_own {P : Program} {ops : Array Oper} {o : Oper} {a : Act} {w : World} {K : Act → World → Prop} {Q : Exit → Act → World → Prop} {E : Prop}
    (hg : o.guard = none) (s x : Operand) (t : TypeId) (hop : o.op = Op.call { callee := Callee.builtin Builtin.append, args := #[s, x], argTypes := #[t, t] })
    (base : Nat) (e : TypeId) (i : TypeInfo) (z : Value) (size bytes : Nat) (h1 : P.underlying t = some (.slice e)) (h2 : P.info? e = some i) (h3 : i.zero = some z) (h4 : i.size = size) (h5 : i.bytes = bytes) (h6 : z.cells.size = size) (h7 : 0 < size)
    (v : Value) (n : Nat) (xs : List Value) (hs : a.eval s = v) (hown : w.ownsRow base e size v n xs)
    (ad : Addr) (m c : Nat) (news : List Value) (hx : a.eval x = .slice (some ad) m c) (hn : news.length = m * size) (hc : ∀ j u, news[j]? = some u → w.cell? (ad.add j) = some u) (h1c : ∀ u ∈ news, u.oneCell' = true)
    (b1 : n + m ≤ maxLen) (b2 : (n + m) * bytes ≤ 140737488355328) (b3 : base ≤ w.heap.size)
    (hK : ∀ v' w', w'.ownsRow base e size v' (n + m) (xs ++ news) → w.grownBy w' v.ownBlock → (v' = .slice none 0 0 ↔ v = .slice none 0 0 ∧ m = 0) → K (a.put o.dst v') w') :
    if Region.wanted o (yielded ops a.tmps) = true then Oper.wp P o a w K Q else E := by
  have hw : Region.wanted o (yielded ops a.tmps) = true := by simp [Region.wanted, hg]
  rw [if_pos hw]
  obtain ⟨v', w', hrun, r1, r2, r3⟩ := run_append_own (P := P) w base t o.type e i z size bytes h1 h2 h3 h4 h5 h6 h7 v n xs hown ad m c news hn hc h1c b1 b2 b3
  unfold Oper.wp
  simp [execOp, hop, resolve, invoke, builtin, hs, hx, hrun, Result.andThen]
  exact hK v' w' r1 r2 r3

/-- A slice of bytes of the call's own, from block B on, not the cursor's. -/
def Row (B b : Nat) (w : World) (v : Value) (n : Nat) : Prop :=
  ∃ g cap, ∃ xs : List Int, v = .slice (some ⟨g, 0, none⟩) n cap ∧ B ≤ g ∧ g < w.heap.size ∧ g ≠ b ∧ n ≤ cap ∧ cap ≤ maxLen ∧ xs.length = n ∧
    (∀ j, j < n → w.cell? ⟨g, j, none⟩ = some (.int .u8 (xs.getD j 0))) ∧ ∀ j, j < n → w.frozen? ⟨g, j, none⟩ = false

theorem Row.kept {B b : Nat} {w w1 : World} {v : Value} {n : Nat} (h : Row B b w v n) (g1 : w.grownBy w1 (some b)) : Row B b w1 v n := by
  obtain ⟨g, cap, xs, hv, hB, hlt, hne, hn, hm, hx, hc, hf⟩ := h
  have hb := g1.block g hlt (by simpa using hne)
  exact ⟨g, cap, xs, hv, hB, Nat.lt_of_lt_of_le hlt g1.size, hne, hn, hm, hx, fun j hj => (World.cell?_of_block (a := ⟨g, j, none⟩) hb).trans (hc j hj), fun j hj => (World.frozen?_of_block (a := ⟨g, j, none⟩) hb).trans (hf j hj)⟩

theorem Row.of_own {B b : Nat} {w : World} {v : Value} {n : Nat} {zs : List Int} (h : w.ownsRow B 5 1 v n (zs.map (Value.int .u8))) (hnn : v ≠ .slice none 0 0) (hb : v.ownBlock ≠ some b) : Row B b w v n := by
  have hl := h.1
  rcases h.2 with ⟨h0, _⟩ | ⟨g, cap, cur, hv, hB, hh, hn, hm, hcs, ht⟩
  · exact absurd h0 hnn
  · have hb' : g ≠ b := by
      intro e
      rw [hv] at hb
      exact hb (by simp [Value.ownBlock, e])
    have hl' : zs.length = n := by simpa using hl
    refine ⟨g, cap, zs, hv, hB, lt_of_heap hh, hb', hn, hm, hl', fun j hj => ?_, fun j hj => Lib.frozen_of_heap hh j⟩
    have := h.cells (g := g) (by rw [hv]; rfl) j (.int .u8 (zs.getD j 0)) (by
      have hj' : j < zs.length := by omega
      simp [List.getD, hj'])
    have hplain : (⟨g, 0, none⟩ : Addr).add j = ⟨g, j, none⟩ := by unfold Addr.add; split <;> simp_all
    rw [hplain] at this
    exact this

theorem ints_one (zs : List Int) : ∀ u ∈ zs.map (Value.int .u8), u.oneCell' = true := by
  intro u hu
  obtain ⟨x, _, rfl⟩ := List.mem_map.1 hu
  rfl

theorem add_at (g o j : Nat) : (⟨g, o, none⟩ : Addr).add j = ⟨g, o + j, none⟩ := by unfold Addr.add; split <;> simp_all

theorem info5d : (Try.prog.info? 5).map (fun i => (i.zero, i.size, i.bytes)) = some (some (.int .u8 0), 1, 1) := by kernel_rfl

theorem g_row {w w1 w2 : World} {b : Nat} {row : Option Nat} (h : w.grownBy w1 (some b)) (k : w1.grownBy w2 row) (hr : ∀ x, row = some x → w.heap.size ≤ x) : w.grownBy w2 (some b) :=
  ⟨k.os.trans h.os, k.tape.trans h.tape, k.output.trans h.output, Nat.le_trans h.size k.size, fun i hi hb => (k.block i (Nat.lt_of_lt_of_le hi h.size) (fun e => by have := hr i e.symm; omega)).trans (h.block i hi hb)⟩

theorem Row.set {B b g cap n : Nat} {w : World} {xs : List Int} (hB : B ≤ g) (hlt : g < w.heap.size) (hne : g ≠ b) (hn : n ≤ cap) (hm : cap ≤ maxLen) (hx : xs.length = n)
    (hc : ∀ j, j < n → w.cell? ⟨g, j, none⟩ = some (.int .u8 (xs.getD j 0))) (hf : ∀ j, j < n → w.frozen? ⟨g, j, none⟩ = false) (k : Nat) (hk : k < n) (c : Int) :
    Row B b (w.setCell ⟨g, k, none⟩ (.int .u8 c)) (.slice (some ⟨g, 0, none⟩) n cap) n := by
  refine ⟨g, cap, xs.set k c, rfl, hB, by simpa [World.setCell] using hlt, hne, hn, hm, by simpa using hx, fun j hj => ?_, fun j hj => ?_⟩
  · by_cases h : j = k
    · subst h
      rw [World.cell?_setCell_same _ _ _ (by rw [hc j hj])]
      simp [List.getD, List.getElem?_set, hx, hk]
    · rw [World.cell?_setCell_other _ _ _ _ (by simp [Ne.symm h]), hc j hj]
      simp [List.getD, List.getElem?_set, Ne.symm h]
  · rw [World.frozen?_setCell]
    exact hf j hj

theorem Row.cut {B b : Nat} {w : World} {n g cap : Nat} (h : Row B b w (.slice (some ⟨g, 0, none⟩) n cap) n) (k : Nat) (hk : k ≤ n) : Row B b w (.slice (some ⟨g, 0, none⟩) k cap) k := by
  obtain ⟨g', cap', xs, hv, hB, hlt, hne, hn, hm, hx, hc, hf⟩ := h
  injection hv with e1 e2 e3
  injection e1 with e1
  injection e1 with e1
  subst e1 e3
  refine ⟨g, cap, xs.take k, rfl, hB, hlt, hne, by omega, hm, by simp; omega, fun j hj => ?_, fun j hj => hf j (by omega)⟩
  rw [hc j (by omega)]
  simp [List.getD, List.getElem?_take, hj]

theorem sl_pre (g L cap k : Nat) (h : k ≤ cap) (hc : ¬ cap = 0) (W : World) : (Instr.slice 22 (.slice (some ⟨g, 0, none⟩) L cap) none (some (.int .i64 k)) none).run Try.prog W = .ok (.slice (some ⟨g, 0, none⟩) k cap) W := by
  have h' : (k : Int) ≤ cap := by omega
  go_simp

theorem sl_suf (g L cap k : Nat) (h : k ≤ L) (hL : L ≤ cap) (W : World) : (Instr.slice 22 (.slice (some ⟨g, 0, none⟩) L cap) (some (.int .i64 k)) none none).run Try.prog W = .ok (.slice (some (if cap = k then ⟨g, 0, none⟩ else ⟨g, k, none⟩)) (L - k) (cap - k)) W := by
  have h' : (k : Int) ≤ L := by omega
  have h2 : (L : Int) ≤ cap := by omega
  go_simp
  by_cases e : cap = k <;> simp [e, Addr.add]

/-- Where a rest of the row begins. -/
theorem suf_addr (g L cap k : Nat) (hL : L ≤ cap) : ∃ A : Addr, (if cap = k then (⟨g, 0, none⟩ : Addr) else ⟨g, k, none⟩) = A ∧ ∀ j, j < L - k → A.add j = ⟨g, k + j, none⟩ := by
  refine ⟨_, rfl, fun j hj => ?_⟩
  rw [if_neg (by omega), add_at]

/-- The new empty slice, and a draw. -/
def bare (w : World) : World := w.drew.alloc (.cells #[] 5)

theorem own_bare (w : World) (B : Nat) (hB : B ≤ w.heap.size) : (bare w).ownsRow B 5 1 (.slice (some ⟨w.heap.size, 0, none⟩) 0 0) 0 [] :=
  World.ownsRow_made w.drew #[] 0 hB (by decide) rfl

theorem cell_bare (w : World) (g j : Nat) (h : g < w.heap.size) : (bare w).cell? ⟨g, j, none⟩ = w.cell? ⟨g, j, none⟩ :=
  World.cell?_of_block (a := ⟨g, j, none⟩) (Lib.alloc_old w.drew _ g h)

theorem grown_bare (w : World) (row : Option Nat) : w.grownBy (bare w) row := by
  have gg := World.grownBy_alloc w.drew (.cells #[] 5) row
  exact ⟨gg.os, gg.tape, gg.output, gg.size, gg.block⟩

theorem src_pre {w : World} {g L k : Nat} {xs : List Int} (hx : xs.length = L) (hk : k ≤ L) (hc : ∀ j, j < L → w.cell? ⟨g, j, none⟩ = some (.int .u8 (xs.getD j 0))) :
    ∀ j u, ((xs.take k).map (Value.int .u8))[j]? = some u → w.cell? ((⟨g, 0, none⟩ : Addr).add j) = some u := by
  intro j u hj
  have hjk : j < k := by
    rcases Nat.lt_or_ge j k with h | h
    · exact h
    · rw [List.getElem?_eq_none (by simp; omega)] at hj; simp at hj
  rw [add_at, Nat.zero_add, hc j (by omega)]
  have hjl : j < xs.length := by omega
  simp [List.getElem?_take, hjk, hjl] at hj
  simp [List.getD, hjl, hj]

theorem src_suf {w : World} {g L k : Nat} {xs : List Int} {A : Addr} (hx : xs.length = L) (hA : ∀ j, j < L - k → A.add j = ⟨g, k + j, none⟩) (hc : ∀ j, j < L → w.cell? ⟨g, j, none⟩ = some (.int .u8 (xs.getD j 0))) :
    ∀ j u, ((xs.drop k).map (Value.int .u8))[j]? = some u → w.cell? (A.add j) = some u := by
  intro j u hj
  have hjk : j < L - k := by
    rcases Nat.lt_or_ge j (L - k) with h | h
    · exact h
    · rw [List.getElem?_eq_none (by simp; omega)] at hj; simp at hj
  have hjl : k + j < xs.length := by omega
  rw [hA j hjk, hc (k + j) (by omega)]
  simp [List.getElem?_drop, hjl] at hj
  simp [List.getD, hjl, hj]

/-- A block that is not the row's own stands behind an append. -/
theorem cell_grown {w w1 : World} {v : Value} {B n : Nat} {ys : List Value} (ho : w.ownsRow B 5 1 v n ys) (hg : w.grownBy w1 v.ownBlock) {g L : Nat} {xs : List Int} (hgl : g < w.heap.size) (hne : some g ≠ v.ownBlock)
    (hc : ∀ j, j < L → w.cell? ⟨g, j, none⟩ = some (.int .u8 (xs.getD j 0))) : ∀ j, j < L → w1.cell? ⟨g, j, none⟩ = some (.int .u8 (xs.getD j 0)) := fun j hj =>
  (World.cell?_of_block (a := ⟨g, j, none⟩) (hg.block g hgl hne)).trans (hc j hj)

theorem one_cell5 (w : World) (v : Value) : ∀ j u, [v][j]? = some u → (w.alloc (.cells #[v] 5)).cell? ((⟨w.heap.size, 0, none⟩ : Addr).add j) = some u := by
  intro j u hj
  match j, hj with
  | 0, hj => simp at hj; subst hj; simp [Addr.add]

theorem Row.mono {B B1 b : Nat} {w : World} {v : Value} {n : Nat} (h : Row B b w v n) (hB : B1 ≤ B) : Row B1 b w v n := by
  obtain ⟨g, cap, xs, hv, hg, r⟩ := h
  exact ⟨g, cap, xs, hv, Nat.le_trans hB hg, r⟩

theorem cells3 {w4 W1 W2 W3 : World} {b g L : Nat} {xs : List Int} {v1 : Value} {n : Nat} {ys : List Value} {o : Obj} (hg4 : g < w4.heap.size) (hgb : g ≠ b) (hs : w4.heap.size ≤ W1.heap.size)
    (hc : ∀ j, j < L → W1.cell? ⟨g, j, none⟩ = some (.int .u8 (xs.getD j 0))) (hG : W1.grownBy W2 (some b)) (hown1 : W1.ownsRow w4.heap.size 5 1 v1 n ys) (h3 : (W2.alloc o).grownBy W3 v1.ownBlock) :
    ∀ j, j < L → W3.cell? ⟨g, j, none⟩ = some (.int .u8 (xs.getD j 0)) := fun j hj => by
  have h2 : g < W2.heap.size := by have := hG.size; omega
  have e3 := h3.block g (by simp; omega) (fun e => by have := (hown1.lt g e.symm).1; omega)
  have e2 := Lib.alloc_old W2 o g h2
  have e1 := hG.block g (by omega) (by simpa using hgb)
  exact (World.cell?_of_block (a := ⟨g, j, none⟩) (e3.trans (e2.trans e1))).trans (hc j hj)

theorem Cur.bare {w0 : World} {a : Option Addr} {len cap b : Nat} {w : World} (h : Cur w0 a len cap b w) : Cur w0 a len cap b (bare w) := h.grown (grown_bare w none) (by simp) (by simp)

theorem own_ge {w w1 : World} {B B0 : Nat} {v : Value} {n : Nat} {xs : List Value} (h : w.ownsRow B 5 1 v n xs) (hB : B0 ≤ B) : ∀ k, v.ownBlock = some k → B0 ≤ k := fun k hk => Nat.le_trans hB (h.lt k hk).1

end Go.Proofs.Ytnddphmcagcdiaa
