/- What FnTrees asks, as mathematics; ReadTree of the specification in the same words as the program's. Contracts of the drawing cursor: made, a byte, a number below another, a coin. What is drawn is some value in its range; nothing that was there turns but the cursor's own block. Contract of the draw of a name: some text of at most seven bytes. Contract of the drawing function that bends a text: it answers some text, at most two bytes longer; nothing that was there turns but the cursor's block. -/
import Derived.Test.YteninofjeidljaaGreatM23
import Derived.Test.YteninofjeidljaaGreatM25
import Derived.Test.YteninofjeidljaaGreatM26
import Derived.Test.YteninofjeidljaaGreatM27
import Derived.Test.YteninofjeidljaaGreatM21
import Derived.Test.YteninofjeidljaaGreatM28
import Derived.Test.YteninofjeidljaaGreatRows
import Derived.Test.YteninofjeidljaaGreatM1
import Derived.WalkKit
import Derived.OwnWalk
import Derived.Lib.BufferWrite
import Derived.Deep.QuietTactic
import Derived.BigQuiet
import Derived.Laws.IdiomStrings
import Derived.Deep.RegionLaw
namespace Go.Proofs.YteninofjeidljaaGreat

open Go.RowKit

set_option linter.unusedVariables false

set_option linter.unusedSimpArgs false

theorem adj_of : ∀ {l : List Tk}, NoTwo l → noAdj l
  | [], _ => fun i h => absurd h (Nat.not_lt_zero _)
  | [a], _ => fun i h => absurd h (by simp)
  | a :: b :: r, h => fun i hi => by
    match i with
    | 0 => exact h.1
    | i + 1 =>
      have := adj_of h.2 i (by simpa using hi)
      simpa using this

theorem all_list : ∀ (l : List Tk) (s : ByteArray), (∀ t ∈ l, tokB t = true) → (l.foldl (fun s t => s ++ showS t) s).data.toList = s.data.toList ++ l.flatMap showL
  | [], s, _ => by simp
  | t :: l, s, h => by
    show (l.foldl (fun s t => s ++ showS t) (s ++ showS t)).data.toList = _
    rw [all_list l _ (fun u hu => h u (List.mem_cons_of_mem _ hu)), show (s ++ showS t).data.toList = s.data.toList ++ (showS t).data.toList by simp, showS_list (h t List.mem_cons_self), List.flatMap_cons, List.append_assoc]

theorem toks_shown {l : List Tk} (h1 : ∀ t ∈ l, tokB t = true) (h2 : l.length ≤ 120) (h3 : noAdj l) (h4 : (l.flatMap showL).length ≤ 4000) : toksF (l.flatMap showL) = some l := by
  have k1 := flat_long showL 1 l (fun t ht => (show_plain (h1 t ht)).2)
  have k2 := lex_all l h1 h3 ((l.flatMap showL).length + 1) [] [] (fun x => absurd rfl x) (by omega)
  rw [flush_nil, List.nil_append] at k2
  unfold toksF
  rw [if_pos ⟨h4, flat_plain showL l (fun t ht => (show_plain (h1 t ht)).1)⟩, k2]
  simp only [if_pos (And.intro h1 h2)]

/-- What was shown is read again. -/
theorem read_shown {ts : List Tk} (hT : TreeP ts) (hz : TksSz 1048576 ts) (hs : (shownN ts).size ≤ 4000) : readT (shownN ts) = some ts := by
  have h1 := hT.1
  have hok : ∀ t ∈ tokN ts ts.length 0, tokB t = true := fun t ht => tokN_right hT _ _ (by omega) t ht
  have e : (shownN ts).data.toList = (tokN ts ts.length 0).flatMap showL := by
    unfold shownN
    rw [if_pos (treeB_t hT)]
    unfold showAll
    rw [all_list _ _ hok]
    rfl
  have hlen : (tokN ts ts.length 0).length ≤ 120 := by
    have h3 := tokN_len (ts := ts) ts.length 0 (by omega)
    have h4 := endN_le (ts := ts) (k := 0) (by omega)
    have := hT.2.1
    omega
  have hl : ((tokN ts ts.length 0).flatMap showL).length ≤ 4000 := by rw [← e]; exact hs
  unfold readT
  rw [e, toks_shown hok hlen (adj_of (tokN_noTwo hT _ _ (by omega) (by omega))) hl]
  exact grown_toks hT

theorem shown_no {ts : List Tk} (h : treeB ts = false) : shownN ts = ⟨#[]⟩ ∧ toksT ts = [] := by
  unfold shownN toksT
  rw [h]
  exact ⟨rfl, rfl⟩

theorem toksT_tree {ts : List Tk} (h : treeB ts = true) : grownT (toksT ts) = some ts := by
  unfold toksT
  rw [if_pos h]
  exact grown_toks (treeB_P h)

theorem grown_tree {l ts : List Tk} (h : grownT l = some ts) : treeB ts = true ∧ toksT ts = l := by
  obtain ⟨h1, h2⟩ := toks_grown h
  refine ⟨treeB_t h1, ?_⟩
  unfold toksT
  rw [if_pos (treeB_t h1)]
  exact h2

theorem read_tree {s : ByteArray} {ts : List Tk} (h : readT s = some ts) : treeB ts = true := by
  unfold readT at h
  cases q : toksF s.data.toList with
  | none => rw [q] at h; cases h
  | some l => rw [q] at h; exact (grown_tree h).1

theorem small_tree {ts : List Tk} (h : treeB ts = true) : TksSz 1048576 ts ∧ ts.length ≤ 50 := by
  have hT := treeB_P h
  have hg := grown_toks hT
  refine ⟨fun t ht => ?_, hT.2.1⟩
  obtain ⟨k, hk, rfl⟩ := List.getElem_of_mem ht
  obtain ⟨⟨_, hb⟩, -⟩ := hT.2.2.2.2 k hk
  by_cases h0 : ts[k].name.size = 0
  · rw [nodeB_tx h0, Bool.and_eq_true] at hb
    have := tok_small (t := ⟨3, ⟨#[]⟩, [], ts[k].text⟩) (by
      unfold tokB
      simp only [if_neg (show ¬ (3 : Int) = 1 by decide), if_neg (show ¬ (3 : Int) = 2 by decide), if_true]
      rw [hb.2]
      rfl)
    have hl := of_decide_eq_true hb.1
    exact ⟨by omega, by omega, fun x hx => by rw [List.eq_nil_of_length_eq_zero hl] at hx; exact absurd hx List.not_mem_nil, this.2.2.2⟩
  · rw [nodeB_el h0, Bool.and_eq_true, Bool.and_eq_true] at hb
    have := tok_small (t := ⟨1, ts[k].name, ts[k].attrs, ⟨#[]⟩⟩) (by
      unfold tokB
      simp only [if_true]
      rw [hb.1, hb.2.1]
      rfl)
    have ht := of_decide_eq_true hb.2.2
    exact ⟨this.1, this.2.1, this.2.2.1, by omega⟩

/-- ReadTree of the specification, in those words. -/
theorem cReadTreeT (s : ByteArray) (w : World) (hs : s.size ≤ maxLen) : Calls Tryz.prog 20 #[.string s] w fun e w' => ∃ a c, e = .returned (.tuple #[.slice a ((readT s).getD []).length c, .bool (readT s).isSome]) ∧ TkRow w' a ((readT s).getD []) ∧ Below w.heap.size w w' := by
  refine (cReadTreeS s w hs).mono ?_
  rintro e w' ⟨a, c, us, b, rfl, hr, hb, hno, hyes⟩
  cases q : toksF s.data.toList with
  | none =>
    obtain ⟨rfl, rfl⟩ := hno q
    have e : readT s = none := by unfold readT; rw [q]; rfl
    rw [e]
    exact ⟨a, c, rfl, hr, hb⟩
  | some l =>
    obtain ⟨rfl, rfl⟩ := hyes l q
    have e : readT s = grownT l := by unfold readT; rw [q]; rfl
    rw [e]
    exact ⟨a, c, rfl, hr, hb⟩

end Go.Proofs.YteninofjeidljaaGreat

namespace Go.Proofs.YteninofjeidljaaGreat

open Go.RowKit

set_option linter.unusedVariables false

set_option linter.unusedSimpArgs false

theorem and255 (x : Int) : 0 ≤ bits BinOp.and IntKind.i64 x 255 ∧ bits BinOp.and IntKind.i64 x 255 ≤ 255 := by
  have h : (BitVec.ofInt 64 x &&& BitVec.ofInt 64 255).toNat ≤ 255 := by
    rw [BitVec.toNat_and]
    exact Nat.le_trans Nat.and_le_right (by decide)
  have e : bits BinOp.and IntKind.i64 x 255 = IntKind.i64.wrap ((BitVec.ofInt 64 x &&& BitVec.ofInt 64 255).toNat : Int) := rfl
  rw [e, IntWalk.i64_in _ (by omega)]
  omega

/-- The bytes that a draw is made of can be read in w0. -/
def CodeRow (w0 : World) (a : Option Addr) (len : Nat) : Prop :=
  len = 0 ∨ ∃ cb co, ∃ z : Nat → Int, a = some ⟨cb, co, none⟩ ∧ cb < w0.heap.size ∧ ∀ j, j < len → w0.cell? ⟨cb, co + j, none⟩ = some (.int .u8 (z j))

/-- A cursor in block b, one of the call's own. -/
def Cur (w0 : World) (a : Option Addr) (len cap b : Nat) (w : World) : Prop :=
  w0.heap.size ≤ b ∧ Below w0.heap.size w0 w ∧ ∃ i h : Int, 0 ≤ i ∧ i ≤ len ∧ w.heap[b]? = some (.cells #[.slice a len cap, .int .i64 i, .int .i64 h] 126 (0, 0))

theorem gtrans {w w1 w2 : World} {row : Option Nat} (h : w.grownBy w1 row) (k : w1.grownBy w2 row) : w.grownBy w2 row :=
  ⟨k.os.trans h.os, k.tape.trans h.tape, k.output.trans h.output, Nat.le_trans h.size k.size, fun i hi hr => (k.block i (Nat.lt_of_lt_of_le hi h.size) hr).trans (h.block i hi hr)⟩

theorem g_drewN {w w1 : World} {row : Option Nat} (h : w.grownBy w1 row) (n : Nat) : w.grownBy (w1.drewN n) row := ⟨h.os, h.tape, h.output, h.size, h.block⟩

theorem g_set {w w1 : World} {b : Nat} (h : w.grownBy w1 (some b)) (j : Nat) (v : Value) : w.grownBy (w1.setCell ⟨b, j, none⟩ v) (some b) := gtrans h (Lib.grownBy_setCell w1 b j v)

theorem Cur.size {w0 : World} {a : Option Addr} {len cap b : Nat} {w : World} (h : Cur w0 a len cap b w) : w0.heap.size ≤ w.heap.size := h.2.1.size

theorem Cur.lt {w0 : World} {a : Option Addr} {len cap b : Nat} {w : World} (h : Cur w0 a len cap b w) : b < w.heap.size := by
  obtain ⟨_, _, i, x, _, _, hh⟩ := h
  exact lt_of_heap hh

theorem Cur.drewN {w0 : World} {a : Option Addr} {len cap b : Nat} {w : World} (h : Cur w0 a len cap b w) (n : Nat) : Cur w0 a len cap b (w.drewN n) := by
  obtain ⟨h1, h2, r⟩ := h
  exact ⟨h1, ⟨h2.os, h2.tape, h2.output, h2.size, h2.block⟩, r⟩

theorem Cur.set1 {w0 : World} {a : Option Addr} {len cap b : Nat} {w : World} (h : Cur w0 a len cap b w) (v : Int) (h0 : 0 ≤ v) (h1 : v ≤ len) : Cur w0 a len cap b (w.setCell ⟨b, 1, none⟩ (.int .i64 v)) := by
  obtain ⟨hb, h2, i, x, _, _, hh⟩ := h
  refine ⟨hb, h2.setCell (p := ⟨b, 1, none⟩) hb _, v, x, h0, h1, ?_⟩
  simp [World.setCell, Array.getElem?_modify, hh]

theorem Cur.set2 {w0 : World} {a : Option Addr} {len cap b : Nat} {w : World} (h : Cur w0 a len cap b w) (v : Int) : Cur w0 a len cap b (w.setCell ⟨b, 2, none⟩ (.int .i64 v)) := by
  obtain ⟨hb, h2, i, x, h0, h1, hh⟩ := h
  refine ⟨hb, h2.setCell (p := ⟨b, 2, none⟩) hb _, i, v, h0, h1, ?_⟩
  simp [World.setCell, Array.getElem?_modify, hh]

/-- What else is written leaves the cursor. -/
theorem Cur.grown {w0 : World} {a : Option Addr} {len cap b : Nat} {w w1 : World} {row : Option Nat} (h : Cur w0 a len cap b w) (g : w.grownBy w1 row) (hne : some b ≠ row) (hr : ∀ k, row = some k → w0.heap.size ≤ k) : Cur w0 a len cap b w1 := by
  have hlt := h.lt
  obtain ⟨hb, h2, i, x, h0, h1, hh⟩ := h
  exact ⟨hb, h2.grown g h2.size hr, i, x, h0, h1, (g.block b hlt hne).trans hh⟩

theorem Cur.alloc {w0 : World} {a : Option Addr} {len cap b : Nat} {w : World} (h : Cur w0 a len cap b w) (o : Obj) : Cur w0 a len cap b (w.alloc o) :=
  h.grown (World.grownBy_alloc w o none) (by simp) (by simp)

/-- A row of bytes of the call's own is no cursor's block. -/
theorem Cur.ne {w0 : World} {a : Option Addr} {len cap b : Nat} {w : World} (h : Cur w0 a len cap b w) {B : Nat} {v : Value} {n : Nat} {xs : List Value} (ho : w.ownsRow B 5 1 v n xs) : v.ownBlock ≠ some b := by
  obtain ⟨hb, h2, i, x, h0, h1, hh⟩ := h
  exact Lib.ownBlock_ne (T := 126) ho hh (by decide)

/-- A draw leaves such a row. -/
theorem own_kept {w0 : World} {a : Option Addr} {len cap b : Nat} {w w1 : World} (h : Cur w0 a len cap b w) {B : Nat} {v : Value} {n : Nat} {xs : List Value} (ho : w.ownsRow B 5 1 v n xs) (g : w.grownBy w1 (some b)) : w1.ownsRow B 5 1 v n xs :=
  ho.kept g (Or.inr (h.ne ho))

set_option maxHeartbeats 2000000 in
theorem cByte (w0 : World) (a : Option Addr) (len cap b : Nat) (w : World) (hlen : len ≤ 4096) (hcr : CodeRow w0 a len) (hC : Cur w0 a len cap b w) :
    Calls Tryz.prog 97 #[.pointer (some ⟨b, 0, none⟩)] w fun e w' => ∃ x : Int, e = .returned (.int .i64 x) ∧ 0 ≤ x ∧ x ≤ 255 ∧ Cur w0 a len cap b w' ∧ w.grownBy w' (some b) := by
  have HC : Hid (Cur w0 a len cap b w) := hC
  obtain ⟨hb, hB, i, h, hi0, hi1, hh⟩ := hC
  have k0 : w.cell? ⟨b, 0, none⟩ = some (.slice a len cap) := by rw [Lib.cell_of_heap hh]; rfl
  have k1 : w.cell? ⟨b, 1, none⟩ = some (.int .i64 i) := by rw [Lib.cell_of_heap hh]; rfl
  have k2 : w.cell? ⟨b, 2, none⟩ = some (.int .i64 h) := by rw [Lib.cell_of_heap hh]; rfl
  have f1 : w.frozen? ⟨b, 1, none⟩ = false := Lib.frozen_of_heap hh 1
  have f2 : w.frozen? ⟨b, 2, none⟩ = false := Lib.frozen_of_heap hh 2
  have g0 := World.grownBy.refl w (some b)
  have HG : Hid (w.grownBy w (some b)) := g0
  by_cases hlt : i < len
  · obtain ⟨cb, co, z, rfl, hcb, hz⟩ : ∃ cb co, ∃ z : Nat → Int, a = some ⟨cb, co, none⟩ ∧ cb < w0.heap.size ∧ ∀ j, j < len → w0.cell? ⟨cb, co + j, none⟩ = some (.int .u8 (z j)) := by
      rcases hcr with h | h
      · omega
      · exact h
    have hne : ¬ cb = b := by omega
    have hcell : ∀ v, (w.setCell ⟨b, 2, none⟩ v).cell? ⟨cb, co + i.toNat, none⟩ = some (.int .u8 (z i.toNat)) := fun v => by
      rw [World.cell?_setCell_other _ _ _ _ (by simp [hne]), hB.cell (p := ⟨cb, co + i.toNat, none⟩) hcb]
      exact hz _ (by omega)
    clear hcr hz hB hh g0
    have hdl : decide (i < (len : Int)) = true := by simp; omega
    go_enter Tryz.func97, Tryz.ntmps97
    go_wp2
    go_quiet (fail)
    go_wp2
    go_quiet (fail)
    go_wp2
    go_quiet (fail)
    go_wp2
    go_ret
    refine ⟨_, rfl, (and255 _).1, (and255 _).2, ?_, ?_⟩
    · repeat (first | exact HC.out | apply Cur.drewN | (refine Cur.set1 ?_ _ (by omega) (by omega)) | apply Cur.set2)
    · repeat (first | exact HG.out | apply g_drewN | apply g_set)
  · have hdl : decide (i < (len : Int)) = false := by simp; omega
    clear hcr hB hh g0
    go_enter Tryz.func97, Tryz.ntmps97
    go_wp2
    go_quiet (fail)
    go_wp2
    go_quiet (fail)
    go_wp2
    go_ret
    refine ⟨_, rfl, (and255 _).1, (and255 _).2, ?_, ?_⟩
    · repeat (first | exact HC.out | apply Cur.drewN | apply Cur.set2)
    · repeat (first | exact HG.out | apply g_drewN | apply g_set)

set_option maxHeartbeats 2000000 in
/-- A number below n (n from 1 to 256). -/
theorem cBelow (n : Nat) (w0 : World) (a : Option Addr) (len cap b : Nat) (w : World) (hlen : len ≤ 4096) (hcr : CodeRow w0 a len) (hC : Cur w0 a len cap b w) (hn0 : 1 ≤ n) (hn1 : n ≤ 256) :
    Calls Tryz.prog 45 #[.pointer (some ⟨b, 0, none⟩), .int .i64 n] w fun e w' => ∃ x : Nat, e = .returned (.int .i64 x) ∧ x < n ∧ Cur w0 a len cap b w' ∧ w.grownBy w' (some b) := by
  have HC : Hid (Cur w0 a len cap b w) := hC
  have HR : Hid (CodeRow w0 a len) := hcr
  clear hC hcr
  have hz : ¬ (n : Int) = 0 := by omega
  go_enter Tryz.func45, Tryz.ntmps45
  go_wp2_with (go_at_call 97; refine (cByte w0 a len cap b _ hlen HR.out HC.out).mono ?_; rintro e w1 ⟨x, rfl, h0, h1, hC1, hg1⟩)
  go_ret
  have e : (x % (n : Int)) = ((x.toNat % n : Nat) : Int) := by
    have : x = (x.toNat : Int) := by omega
    rw [this]; simp
  refine ⟨x.toNat % n, ?_, Nat.mod_lt _ (by omega), hC1, hg1⟩
  first | (rw [← e]; rfl) | (rw [← e]; simp)

theorem cOnce (n : Nat) (w0 : World) (a : Option Addr) (len cap b : Nat) (w : World) (hlen : len ≤ 4096) (hcr : CodeRow w0 a len) (hC : Cur w0 a len cap b w) (hn0 : 1 ≤ n) (hn1 : n ≤ 256) :
    Calls Tryz.prog 44 #[.pointer (some ⟨b, 0, none⟩), .int .i64 n] w fun e w' => ∃ x : Bool, e = .returned (.bool x) ∧ Cur w0 a len cap b w' ∧ w.grownBy w' (some b) := by
  have HC : Hid (Cur w0 a len cap b w) := hC
  have HR : Hid (CodeRow w0 a len) := hcr
  clear hC hcr
  go_enter Tryz.func44, Tryz.ntmps44
  go_wp2_with (go_at_call 45; refine (cBelow n w0 a len cap b _ hlen HR.out HC.out hn0 hn1).mono ?_; rintro e w1 ⟨x, rfl, h1, hC1, hg1⟩)
  go_ret
  exact ⟨_, rfl, hC1, hg1⟩

set_option maxHeartbeats 2000000 in
theorem cNew (a : Option Addr) (len cap : Nat) (w : World) (hlen : len ≤ 4096) (hcr : CodeRow w a len) :
    Calls Tryz.prog 42 #[.slice a len cap] w fun e w' => e = .returned (.pointer (some ⟨w.heap.size, 0, none⟩)) ∧ Cur w a len cap w.heap.size w' := by
  go_enter Tryz.func42, Tryz.ntmps42
  go_wp2
  go_loop [3, 4] (fun h i => ∃ (k : Nat) (x : Int), k ≤ len ∧ i = .int .i64 k ∧ h = .int .i64 x) (fun _ i => len - (intOf i).toNat)
  case atStart => exact ⟨0, _, Nat.zero_le _, rfl, rfl⟩
  case round =>
    obtain ⟨k, x, hk, rfl, rfl⟩ := hrel
    by_cases hlt : k < len
    · obtain ⟨cb, co, z, rfl, hcb, hz⟩ : ∃ cb co, ∃ z : Nat → Int, a = some ⟨cb, co, none⟩ ∧ cb < w.heap.size ∧ ∀ j, j < len → w.cell? ⟨cb, co + j, none⟩ = some (.int .u8 (z j)) := by
        rcases hcr with h | h
        · omega
        · exact h
      have hcell := hz k hlt
      clear hz hcr
      go_wp2
      go_round
      case rel => exact ⟨k + 1, _, by omega, by go_num, rfl⟩
      case measure => simp [intOf]; omega
    · go_wp2
      go_ret
      refine ⟨rfl, Nat.le_refl _, (Below.refl _ _).alloc (Nat.le_refl _) _, 0, x, by omega, by omega, ?_⟩
      exact heap_alloc_new _ _

end Go.Proofs.YteninofjeidljaaGreat

namespace Go.Proofs.YteninofjeidljaaGreat

open Go.RowKit

set_option linter.unusedVariables false

set_option linter.unusedSimpArgs false

/-- The names that are drawn. -/
def namesObj : Obj := .cells #[.string ⟨#[97]⟩, .string ⟨#[98]⟩, .string ⟨#[112, 58, 97]⟩, .string ⟨#[113, 58, 98]⟩, .string ⟨#[73, 100]⟩, .string ⟨#[120]⟩, .string ⟨#[112, 58, 120]⟩, .string ⟨#[99, 58, 67, 108, 97, 105, 109]⟩, .string ⟨#[110, 115]⟩, .string ⟨#[110, 115, 58, 112]⟩] 9 (0, 0)

theorem names_at (w : World) (B x : Nat) (hx : x < 8) (h : w.heap[B]? = some namesObj) : ∃ t : ByteArray, w.cell? ⟨B, x, none⟩ = some (.string t) ∧ t.size ≤ 7 := by
  rw [Lib.cell_of_heap h]
  rcases (show x = 0 ∨ x = 1 ∨ x = 2 ∨ x = 3 ∨ x = 4 ∨ x = 5 ∨ x = 6 ∨ x = 7 from by omega) with rfl | rfl | rfl | rfl | rfl | rfl | rfl | rfl
  all_goals exact ⟨_, rfl, by decide⟩

set_option maxRecDepth 8000 in
set_option maxHeartbeats 1000000 in
theorem cName (w0 : World) (a : Option Addr) (len cap b : Nat) (w : World) (hlen : len ≤ 4096) (hcr : CodeRow w0 a len) (hC : Cur w0 a len cap b w) :
    Calls Tryz.prog 95 #[.pointer (some ⟨b, 0, none⟩)] w fun e w' => ∃ t : ByteArray, e = .returned (.string t) ∧ t.size ≤ 7 ∧ Cur w0 a len cap b w' ∧ w.grownBy w' (some b) := by
  have HR : Hid (CodeRow w0 a len) := hcr
  have HC : Hid (Cur w0 a len cap b (w.alloc namesObj)) := hC.alloc _
  have HN : Hid ((w.alloc namesObj).heap[w.heap.size]? = some namesObj) := heap_alloc_new w _
  have hbl : b < w.heap.size := hC.lt
  clear hC hcr
  go_enter Tryz.func95, Tryz.ntmps95
  go_wp2_with (go_at_call 45; refine (cBelow 8 w0 a len cap b _ hlen HR.out HC.out (by decide) (by decide)).mono ?_; rintro e w1 ⟨x, rfl, hx, hC1, hG1⟩; obtain ⟨t, ht, hts⟩ := names_at w1 w.heap.size x hx ((hG1.block w.heap.size (by simp) (by simp; omega)).trans HN.out); have hxi : (x : Int) < 10 := by omega)
  go_ret
  exact ⟨t, rfl, hts, hC1, gtrans (World.grownBy_alloc w _ _) hG1⟩

end Go.Proofs.YteninofjeidljaaGreat

namespace Go.Proofs.YteninofjeidljaaGreat

open Go.RowKit

set_option linter.unusedVariables false

set_option linter.unusedSimpArgs false

/-- append onto a row of the call's own, as one step of a region that draws its order. -/
theorem step_append_own {P : Program} {ops : Array Oper} {o : Oper} {a : Act} {w : World} {K : Act → World → Prop} {Q : Exit → Act → World → Prop} {E : Prop}
    (hg : o.guard = none) (s x : Operand) (t : TypeId) (hop : o.op = Op.call { callee := Callee.builtin Builtin.append, args := #[s, x], argTypes := #[t, t] })
    (base : Nat) (e : TypeId) (i : TypeInfo) (z : Value) (size bytes : Nat) (h1 : P.underlying t = some (.slice e)) (h2 : P.info? e = some i) (h3 : i.zero = some z) (h4 : i.size = size) (h5 : i.bytes = bytes) (h6 : z.cells.size = size) (h7 : 0 < size)
    (v : Value) (n : Nat) (xs : List Value) (hs : a.eval s = v) (hown : w.ownsRow base e size v n xs)
    (ad : Addr) (m c : Nat) (news : List Value) (hx : a.eval x = .slice (some ad) m c) (hn : news.length = m * size) (hc : ∀ j u, news[j]? = some u → w.cell? (ad.add j) = some u) (h1c : ∀ u ∈ news, u.oneCell' = true)
    (b1 : n + m ≤ maxLen) (b2 : (n + m) * bytes ≤ 140737488355328) (b3 : base ≤ w.heap.size)
    (hK : ∀ v' w', w'.ownsRow base e size v' (n + m) (xs ++ news) → w.grownBy w' v.ownBlock → (v' = .slice none 0 0 ↔ v = .slice none 0 0 ∧ m = 0) → K (a.put o.dst v') w') :
    if Region.wanted o (yielded ops a.tmps) = true then Oper.wp P o a w K Q else E := by
  have hw : Region.wanted o (yielded ops a.tmps) = true := by simp [Region.wanted, hg]
  rw [if_pos hw]
  obtain ⟨v', w', hrun, r1, r2, r3⟩ := run_append_own (P := P) w base t o.type e i z size bytes h1 h2 h3 h4 h5 h6 h7 v n xs hown ad m c news hn hc h1c b1 b2 b3
  unfold Oper.wp
  simp [execOp, hop, resolve, invoke, builtin, hs, hx, hrun, Result.andThen]
  exact hK v' w' r1 r2 r3

/-- A slice of bytes of the call's own, from block B on, not the cursor's. -/
def Row (B b : Nat) (w : World) (v : Value) (n : Nat) : Prop :=
  ∃ g cap, ∃ xs : List Int, v = .slice (some ⟨g, 0, none⟩) n cap ∧ B ≤ g ∧ g < w.heap.size ∧ g ≠ b ∧ n ≤ cap ∧ cap ≤ maxLen ∧ xs.length = n ∧
    (∀ j, j < n → w.cell? ⟨g, j, none⟩ = some (.int .u8 (xs.getD j 0))) ∧ ∀ j, j < n → w.frozen? ⟨g, j, none⟩ = false

theorem ints_one (zs : List Int) : ∀ u ∈ zs.map (Value.int .u8), u.oneCell' = true := by
  intro u hu
  obtain ⟨x, _, rfl⟩ := List.mem_map.1 hu
  rfl

theorem add_at (g o j : Nat) : (⟨g, o, none⟩ : Addr).add j = ⟨g, o + j, none⟩ := by unfold Addr.add; split <;> simp_all

theorem info5d : (Tryz.prog.info? 5).map (fun i => (i.zero, i.size, i.bytes)) = some (some (.int .u8 0), 1, 1) := by kernel_rfl

theorem g_row {w w1 w2 : World} {b : Nat} {row : Option Nat} (h : w.grownBy w1 (some b)) (k : w1.grownBy w2 row) (hr : ∀ x, row = some x → w.heap.size ≤ x) : w.grownBy w2 (some b) :=
  ⟨k.os.trans h.os, k.tape.trans h.tape, k.output.trans h.output, Nat.le_trans h.size k.size, fun i hi hb => (k.block i (Nat.lt_of_lt_of_le hi h.size) (fun e => by have := hr i e.symm; omega)).trans (h.block i hi hb)⟩

theorem sl_pre (g L cap k : Nat) (h : k ≤ cap) (hc : ¬ cap = 0) (W : World) : (Instr.slice 22 (.slice (some ⟨g, 0, none⟩) L cap) none (some (.int .i64 k)) none).run Tryz.prog W = .ok (.slice (some ⟨g, 0, none⟩) k cap) W := by
  have h' : (k : Int) ≤ cap := by omega
  go_simp

theorem sl_suf (g L cap k : Nat) (h : k ≤ L) (hL : L ≤ cap) (W : World) : (Instr.slice 22 (.slice (some ⟨g, 0, none⟩) L cap) (some (.int .i64 k)) none none).run Tryz.prog W = .ok (.slice (some (if cap = k then ⟨g, 0, none⟩ else ⟨g, k, none⟩)) (L - k) (cap - k)) W := by
  have h' : (k : Int) ≤ L := by omega
  have h2 : (L : Int) ≤ cap := by omega
  go_simp
  by_cases e : cap = k <;> simp [e, Addr.add]

/-- Where a rest of the row begins. -/
theorem suf_addr (g L cap k : Nat) (hL : L ≤ cap) : ∃ A : Addr, (if cap = k then (⟨g, 0, none⟩ : Addr) else ⟨g, k, none⟩) = A ∧ ∀ j, j < L - k → A.add j = ⟨g, k + j, none⟩ := by
  refine ⟨_, rfl, fun j hj => ?_⟩
  rw [if_neg (by omega), add_at]

/-- The new empty slice, and a draw. -/
def bare (w : World) : World := w.drew.alloc (.cells #[] 5)

theorem own_bare (w : World) (B : Nat) (hB : B ≤ w.heap.size) : (bare w).ownsRow B 5 1 (.slice (some ⟨w.heap.size, 0, none⟩) 0 0) 0 [] :=
  World.ownsRow_made w.drew #[] 0 hB (by decide) rfl

theorem cell_bare (w : World) (g j : Nat) (h : g < w.heap.size) : (bare w).cell? ⟨g, j, none⟩ = w.cell? ⟨g, j, none⟩ :=
  World.cell?_of_block (a := ⟨g, j, none⟩) (Lib.alloc_old w.drew _ g h)

theorem grown_bare (w : World) (row : Option Nat) : w.grownBy (bare w) row := by
  have gg := World.grownBy_alloc w.drew (.cells #[] 5) row
  exact ⟨gg.os, gg.tape, gg.output, gg.size, gg.block⟩

theorem src_pre {w : World} {g L k : Nat} {xs : List Int} (hx : xs.length = L) (hk : k ≤ L) (hc : ∀ j, j < L → w.cell? ⟨g, j, none⟩ = some (.int .u8 (xs.getD j 0))) :
    ∀ j u, ((xs.take k).map (Value.int .u8))[j]? = some u → w.cell? ((⟨g, 0, none⟩ : Addr).add j) = some u := by
  intro j u hj
  have hjk : j < k := by
    rcases Nat.lt_or_ge j k with h | h
    · exact h
    · rw [List.getElem?_eq_none (by simp; omega)] at hj; simp at hj
  rw [add_at, Nat.zero_add, hc j (by omega)]
  have hjl : j < xs.length := by omega
  simp [List.getElem?_take, hjk, hjl] at hj
  simp [List.getD, hjl, hj]

theorem src_suf {w : World} {g L k : Nat} {xs : List Int} {A : Addr} (hx : xs.length = L) (hA : ∀ j, j < L - k → A.add j = ⟨g, k + j, none⟩) (hc : ∀ j, j < L → w.cell? ⟨g, j, none⟩ = some (.int .u8 (xs.getD j 0))) :
    ∀ j u, ((xs.drop k).map (Value.int .u8))[j]? = some u → w.cell? (A.add j) = some u := by
  intro j u hj
  have hjk : j < L - k := by
    rcases Nat.lt_or_ge j (L - k) with h | h
    · exact h
    · rw [List.getElem?_eq_none (by simp; omega)] at hj; simp at hj
  have hjl : k + j < xs.length := by omega
  rw [hA j hjk, hc (k + j) (by omega)]
  simp [List.getElem?_drop, hjl] at hj
  simp [List.getD, hjl, hj]

/-- A block that is not the row's own stands behind an append. -/
theorem cell_grown {w w1 : World} {v : Value} {B n : Nat} {ys : List Value} (ho : w.ownsRow B 5 1 v n ys) (hg : w.grownBy w1 v.ownBlock) {g L : Nat} {xs : List Int} (hgl : g < w.heap.size) (hne : some g ≠ v.ownBlock)
    (hc : ∀ j, j < L → w.cell? ⟨g, j, none⟩ = some (.int .u8 (xs.getD j 0))) : ∀ j, j < L → w1.cell? ⟨g, j, none⟩ = some (.int .u8 (xs.getD j 0)) := fun j hj =>
  (World.cell?_of_block (a := ⟨g, j, none⟩) (hg.block g hgl hne)).trans (hc j hj)

theorem one_cell5 (w : World) (v : Value) : ∀ j u, [v][j]? = some u → (w.alloc (.cells #[v] 5)).cell? ((⟨w.heap.size, 0, none⟩ : Addr).add j) = some u := by
  intro j u hj
  match j, hj with
  | 0, hj => simp at hj; subst hj; simp [Addr.add]

theorem cells3 {w4 W1 W2 W3 : World} {b g L : Nat} {xs : List Int} {v1 : Value} {n : Nat} {ys : List Value} {o : Obj} (hg4 : g < w4.heap.size) (hgb : g ≠ b) (hs : w4.heap.size ≤ W1.heap.size)
    (hc : ∀ j, j < L → W1.cell? ⟨g, j, none⟩ = some (.int .u8 (xs.getD j 0))) (hG : W1.grownBy W2 (some b)) (hown1 : W1.ownsRow w4.heap.size 5 1 v1 n ys) (h3 : (W2.alloc o).grownBy W3 v1.ownBlock) :
    ∀ j, j < L → W3.cell? ⟨g, j, none⟩ = some (.int .u8 (xs.getD j 0)) := fun j hj => by
  have h2 : g < W2.heap.size := by have := hG.size; omega
  have e3 := h3.block g (by simp; omega) (fun e => by have := (hown1.lt g e.symm).1; omega)
  have e2 := Lib.alloc_old W2 o g h2
  have e1 := hG.block g (by omega) (by simpa using hgb)
  exact (World.cell?_of_block (a := ⟨g, j, none⟩) (e3.trans (e2.trans e1))).trans (hc j hj)

theorem Cur.bare {w0 : World} {a : Option Addr} {len cap b : Nat} {w : World} (h : Cur w0 a len cap b w) : Cur w0 a len cap b (bare w) := h.grown (grown_bare w none) (by simp) (by simp)

theorem own_ge {w w1 : World} {B B0 : Nat} {v : Value} {n : Nat} {xs : List Value} (h : w.ownsRow B 5 1 v n xs) (hB : B0 ≤ B) : ∀ k, v.ownBlock = some k → B0 ≤ k := fun k hk => Nat.le_trans hB (h.lt k hk).1

end Go.Proofs.YteninofjeidljaaGreat
