/- Contracts of the pile of open elements. -/
import Derived.Test.YtkcmagfbacmllabWPileM
import Derived.Maps.AppendAt
import Derived.Deep.Upon
namespace Go.Proofs.Ytkcmagfbacmllab
open Go.RowKit
set_option linter.unusedVariables false
set_option linter.unusedSimpArgs false

/-- append onto a row of the call's own, as one step of a region that draws its order. -/
theorem step_app_at {P : Program} {ops : Array Oper} {o : Oper} {a : Act} {w : World} {K : Act → World → Prop} {Q : Exit → Act → World → Prop} {E : Prop}
    (hg : o.guard = none) (s x : Operand) (t : TypeId) (hop : o.op = Op.call { callee := Callee.builtin Builtin.append, args := #[s, x], argTypes := #[t, t] })
    (base : Nat) (e : TypeId) (i : TypeInfo) (z : Value) (size bytes : Nat) (h1 : P.underlying t = some (.slice e)) (h2 : P.info? e = some i) (h3 : i.zero = some z) (h4 : i.size = size) (h5 : i.bytes = bytes) (h6 : z.cells.size = size) (h7 : 0 < size)
    (v : Value) (n : Nat) (xs : List Value) (hs : a.eval s = v) (hown : w.ownsRow base e size v n xs)
    (ad : Addr) (m c : Nat) (news : List Value) (hx : a.eval x = .slice (some ad) m c) (hn : news.length = m * size) (hc : ∀ j u, news[j]? = some u → w.cell? (ad.add j) = some u) (h1c : ∀ u ∈ news, u.oneCell' = true)
    (b1 : n + m ≤ maxLen) (b2 : (n + m) * bytes ≤ 140737488355328) (b3 : base ≤ w.heap.size)
    (hK : ∀ v' w', w'.ownsRow base e size v' (n + m) (xs ++ news) → w.grownBy w' v.ownBlock → (v'.ownBlock = v.ownBlock ∨ v'.ownBlock = some w.heap.size) → K (a.put o.dst v') w') :
    if Region.wanted o (yielded ops a.tmps) = true then Oper.wp P o a w K Q else E := by
  have hw : Region.wanted o (yielded ops a.tmps) = true := by simp [Region.wanted, hg]
  rw [if_pos hw]
  obtain ⟨v', w', hrun, r1, r2, _, r3⟩ := run_append_own_at (P := P) w base t o.type e i z size bytes h1 h2 h3 h4 h5 h6 h7 v n xs hown ad m c news hn hc h1c b1 b2 b3
  unfold Oper.wp
  simp [execOp, hop, resolve, invoke, builtin, hs, hx, hrun, Result.andThen]
  exact hK v' w' r1 r2 r3

/-- Open elements as cells. -/
def elC (l : List (Nat × ByteArray)) : List Value := l.flatMap fun x => [.int .i64 (x.1 : Int), .string x.2]

theorem elC_len (l : List (Nat × ByteArray)) : (elC l).length = l.length * 2 := by
  induction l with
  | nil => rfl
  | cons x l ih => show (elC l).length + 2 = _; rw [ih, List.length_cons]; omega

theorem elC_app (l m : List (Nat × ByteArray)) : elC (l ++ m) = elC l ++ elC m := by simp [elC]

theorem elC_one (l : List (Nat × ByteArray)) : ∀ u ∈ elC l, u.oneCell' = true := by
  intro u hu
  unfold elC at hu
  obtain ⟨x, _, hx⟩ := List.mem_flatMap.1 hu
  simp at hx
  rcases hx with rfl | rfl <;> rfl

theorem infoEl : (Try.prog.info? 76).map (fun i => (i.zero, i.size, i.bytes)) = some (some (.agg #[.int .i64 0, .string ⟨#[]⟩]), 2, 24) := by kernel_rfl

theorem two_cells (w : World) (x y : Value) (T : TypeId) : ∀ j u, [x, y][j]? = some u → (w.alloc (.cells #[x, y] T)).cell? ((⟨w.heap.size, 0, none⟩ : Addr).add j) = some u := by
  intro j u hj
  match j, hj with
  | 0, hj => simp at hj; subst hj; simp [Addr.add]
  | 1, hj => simp at hj; subst hj; simp [Addr.add]

/-- Open elements, the top first. -/
abbrev PileE (w : World) (B g o : Nat) (cur : Array Value) (T : TypeId) (v : Value) (L : List (Nat × ByteArray)) : Prop := PileAt 76 2 w B g o cur T v L.length (elC L.reverse)

theorem rev_lastE (x : Nat × ByteArray) (L : List (Nat × ByteArray)) : (elC (x :: L).reverse)[L.length * 2]? = some (.int .i64 (x.1 : Int)) ∧ (elC (x :: L).reverse)[L.length * 2 + 1]? = some (.string x.2) := by
  have hl : (elC L.reverse).length = L.length * 2 := by rw [elC_len, List.length_reverse]
  rw [List.reverse_cons, elC_app, List.getElem?_append_right (by omega), List.getElem?_append_right (by omega), hl]
  simp [elC]

theorem rev_takeE (x : Nat × ByteArray) (L : List (Nat × ByteArray)) : (elC (x :: L).reverse).take (L.length * 2) = elC L.reverse := by
  rw [List.reverse_cons, elC_app, List.take_left' (by rw [elC_len, List.length_reverse])]

theorem PileAt.lessE {w : World} {B g o b c n : Nat} {cur : Array Value} {T : TypeId} {x : Nat × ByteArray} {L : List (Nat × ByteArray)} (h : PileE w B g o cur T (.slice (some ⟨b, 0, none⟩) (x :: L).length c) (x :: L)) (hn : L.length = n) :
    PileE (w.setCell ⟨g, o, none⟩ (.slice (some ⟨b, 0, none⟩) n c)) B g o (cur.setIfInBounds o (.slice (some ⟨b, 0, none⟩) n c)) T (.slice (some ⟨b, 0, none⟩) n c) L := by
  subst hn
  have h1 := own_less (m := L.length) h.row (by rw [List.length_cons]; omega)
  rw [rev_takeE] at h1
  exact h.set h1 h.own_ne

set_option maxHeartbeats 2000000 in
theorem cPeTop0 (B g o : Nat) (cur : Array Value) (T : TypeId) (v : Value) (w : World) (h : PileE w B g o cur T v []) :
    Calls Try.prog 75 #[.pointer (some ⟨g, o, none⟩)] w fun e w' => e = .returned (.tuple #[.agg #[.int .i64 0, .string ⟨#[]⟩], .bool false]) ∧ Below w.heap.size w w' := by
  have c0 := h.cell
  have hlt := h.lt
  obtain ⟨a, c, rfl⟩ := own_len h.row
  clear h
  go_enter Try.func75, Try.ntmps75
  go_wp2_with fail
  refine bodyPost_ret (v := .tuple #[.agg #[.int .i64 0, .string ⟨#[]⟩], .bool false]) (by simp [results, Try.results75, go_sem]) rfl ⟨rfl, ?_⟩
  exact ((Below.refl _ _).alloc (Nat.le_refl _) _).alloc (by simp) _

set_option maxHeartbeats 2000000 in
theorem cPeTop (B g o : Nat) (cur : Array Value) (T : TypeId) (v : Value) (x : Nat × ByteArray) (L : List (Nat × ByteArray)) (w : World) (h : PileE w B g o cur T v (x :: L)) (hn : L.length ≤ 1048576) :
    Calls Try.prog 75 #[.pointer (some ⟨g, o, none⟩)] w fun e w' => e = .returned (.tuple #[.agg #[.int .i64 (x.1 : Int), .string x.2], .bool true]) ∧ Below w.heap.size w w' := by
  have c0 := h.cell
  have hlt := h.lt
  obtain ⟨b, c, rfl, hb, _, hc, hcs⟩ := own_pos h.row (Nat.succ_pos _)
  have c1 := hcs (L.length * 2) (by rw [List.length_cons]; omega)
  have c2 := hcs (L.length * 2 + 1) (by rw [List.length_cons]; omega)
  rw [(rev_lastE x L).1] at c1
  rw [(rev_lastE x L).2] at c2
  clear h hcs
  rw [List.length_cons] at c0 hc
  obtain ⟨n, hnn⟩ : ∃ n, L.length = n := ⟨_, rfl⟩
  rw [hnn] at c0 c1 c2 hn hc
  clear hnn
  obtain ⟨x1, x2⟩ := x
  simp only at c1 c2 ⊢
  have hq : ((n + 1 : Nat) : Int) = (n : Int) + 1 := by omega
  have hd : (((n : Int) + 1) == 0) = false := by simp; omega
  go_enter Try.func75, Try.ntmps75
  go_wp2_with fail
  go_region
  go_wp2_with fail
  refine bodyPost_ret (v := .tuple #[.agg #[.int .i64 (x1 : Int), .string x2], .bool true]) (by simp [results, Try.results75, go_sem]) rfl ⟨rfl, ?_⟩
  exact ((Below.refl _ _).alloc (Nat.le_refl _) _).drew

theorem box2e {w : World} {g : Nat} {x y : Value} {T : TypeId} (h : w.heap[g]? = some (.cells #[x, y] T (0, 0))) : (w.cell? ⟨g, 0, none⟩ = some x ∧ w.cell? ⟨g, 1, none⟩ = some y) ∧ (w.frozen? ⟨g, 0, none⟩ = false ∧ w.frozen? ⟨g, 1, none⟩ = false) :=
  ⟨⟨by rw [Lib.cell_of_heap h]; rfl, by rw [Lib.cell_of_heap h]; rfl⟩, Lib.frozen_of_heap h 0, Lib.frozen_of_heap h 1⟩

theorem box_set2 {w1 : World} {b : Nat} {x y u v : Value} {T : TypeId} (h : w1.heap[b]? = some (.cells #[x, y] T (0, 0))) : ((w1.setCell ⟨b, 0, none⟩ u).setCell ⟨b, 1, none⟩ v).heap[b]? = some (.cells #[u, v] T (0, 0)) :=
  heap_setCell_same _ _ _ _ _ _ (heap_setCell_same w1 b 0 _ _ u h)

theorem elC_snoc (x : Nat × ByteArray) (L : List (Nat × ByteArray)) : elC (x :: L).reverse = elC L.reverse ++ [.int .i64 (x.1 : Int), .string x.2] := by
  rw [List.reverse_cons, elC_app]
  rfl

theorem KeepB.of_row {p : Nat → Prop} {w w' : World} {row : Option Nat} (h : w.grownBy w' row) (hp : ∀ k, row = some k → p k) : KeepB p w w' :=
  ⟨h.os, h.tape, h.output, h.size, fun i hi hr => h.block i hi (fun e => hr (hp i e.symm))⟩

theorem KeepB.base {p : Nat → Prop} {w a b : World} (h : KeepB p w a) (hb : Below w.heap.size a b) : KeepB p w b :=
  ⟨hb.os.trans h.os, hb.tape.trans h.tape, hb.output.trans h.output, Nat.le_trans h.size hb.size, fun k hk hp => (hb.block k hk).trans (h.block k hk hp)⟩

set_option maxHeartbeats 4000000 in
theorem cPeTake (B g o : Nat) (cur : Array Value) (T : TypeId) (v : Value) (x : Nat × ByteArray) (L : List (Nat × ByteArray)) (w : World) (h : PileE w B g o cur T v (x :: L)) (hn : L.length ≤ 1048576) :
    Calls Try.prog 76 #[.pointer (some ⟨g, o, none⟩)] w fun e w' => e = .returned (.tuple #[.agg #[.int .i64 (x.1 : Int), .string x.2], .bool true]) ∧ (∃ v', PileE w' B g o (cur.setIfInBounds o v') T v' L ∧ v'.ownBlock = v.ownBlock) ∧ KeepB (fun k => k = g) w w' := by
  have HB0 := hid ((Below.refl w.heap.size w).alloc (Nat.le_refl _) (.cells #[.int .i64 0, .string ⟨#[]⟩] 76))
  have M0 := hid (heap_alloc_new w (.cells #[.int .i64 0, .string ⟨#[]⟩] 76))
  have C := hid (cPeTop B g o cur T v x L _ (h.below HB0.out) hn)
  obtain ⟨b, c, rfl, hb, _, hc, hcs⟩ := own_pos h.row (Nat.succ_pos _)
  clear hcs
  have HP := hid h
  have hgw := h.lt
  clear h
  obtain ⟨n, hnn⟩ : ∃ n, L.length = n := ⟨_, rfl⟩
  have HN := hid hnn
  have hl : (x :: L).length = n + 1 := by rw [List.length_cons, hnn]
  have HL := hid hl
  rw [hl] at hc
  rw [hnn] at hn
  clear hnn hl
  obtain ⟨x1, x2⟩ := x
  simp only at C ⊢
  go_enter Try.func76, Try.ntmps76
  go_wp2_with fail
  refine C.out.mono ?_
  rintro e w1 ⟨rfl, hb1⟩
  have HB1 := hid (bb HB0.out hb1)
  have HP1 := hid ((HP.out.below HB0.out).below hb1)
  have M1 := hid (blk_below M0.out hb1)
  obtain ⟨⟨m0, m1⟩, f0, f1⟩ := box2e M1.out
  have c0 := HP1.out.cell
  have fz := frozen_of_row w1 g o cur T HP1.out.blk
  have hlt := HP1.out.lt
  have hw1 : w.heap.size < w1.heap.size := by have := hb1.size; simp at this; omega
  rw [HL.out] at c0
  have HS := hid (HP1.out.lessE HN.out)
  clear hb1 C HP M0 HB0
  have hq : ((n + 1 : Nat) : Int) = (n : Int) + 1 := by omega
  have hg1 : ¬ g = w1.heap.size := by omega
  have hg2 : ¬ g = w.heap.size := by omega
  have hg3 : ¬ w.heap.size = w1.heap.size := by omega
  have hg1' : ¬ w1.heap.size = g := by omega
  have hg2' : ¬ w.heap.size = g := by omega
  go_wp2_with fail
  go_region
  go_wp2_with fail
  have HP3 := hid ((((HS.out.keep (KeepB.of_set (p := fun k => k = w.heap.size) _ 0 (.int .i64 (x1 : Int)) rfl) hg2 (by simp [Value.ownBlock]; omega)).keep (KeepB.of_set (p := fun k => k = w.heap.size) _ 1 (.string x2) rfl) hg2 (by simp [Value.ownBlock]; omega)).below ((Below.refl _ _).alloc (Nat.le_refl _) (.cells #[.int .i64 (x1 : Int), .string x2] 76))).drew)
  have HK3 := hid (((KeepB.of_below (fun k => k = g) HB1.out).trans (KeepB.of_set (p := fun k => k = g) _ o (.slice (some ⟨b, 0, none⟩) n c) rfl)).base (((((Below.refl w.heap.size _).setCell (p := ⟨w.heap.size, 0, none⟩) (Nat.le_refl _) (.int .i64 (x1 : Int))).setCell (p := ⟨w.heap.size, 1, none⟩) (Nat.le_refl _) (.string x2)).alloc (by simp; omega) (.cells #[.int .i64 (x1 : Int), .string x2] 76)).drew))
  have hM3 := blk_alloc (box_set2 (u := .int .i64 (x1 : Int)) (v := .string x2) ((heap_setCell_other w1 ⟨g, o, none⟩ w.heap.size (.slice (some ⟨b, 0, none⟩) n c) hg2').trans M1.out)) (.cells #[.int .i64 (x1 : Int), .string x2] 76)
  obtain ⟨W, hW⟩ : ∃ W, ((((w1.setCell ⟨g, o, none⟩ (.slice (some ⟨b, 0, none⟩) n c)).setCell ⟨w.heap.size, 0, none⟩ (.int .i64 (x1 : Int))).setCell ⟨w.heap.size, 1, none⟩ (.string x2)).alloc (.cells #[.int .i64 (x1 : Int), .string x2] 76)).drew = W := ⟨_, rfl⟩
  have hM4 : W.heap[w.heap.size]? = some (.cells #[.int .i64 (x1 : Int), .string x2] 76 (0, 0)) := by rw [← hW]; exact hM3
  obtain ⟨⟨r0, r1⟩, _⟩ := box2e hM4
  rw [hW] at HP3 HK3 ⊢
  exact bodyPost_ret (v := .tuple #[.agg #[.int .i64 (x1 : Int), .string x2], .bool true]) (by simp [results, Try.results76, go_sem, r0, r1]) rfl ⟨rfl, ⟨_, HP3.out, rfl⟩, HK3.out⟩

set_option maxHeartbeats 4000000 in
theorem cPeTake0 (B g o : Nat) (cur : Array Value) (T : TypeId) (v : Value) (w : World) (h : PileE w B g o cur T v []) :
    Calls Try.prog 76 #[.pointer (some ⟨g, o, none⟩)] w fun e w' => e = .returned (.tuple #[.agg #[.int .i64 0, .string ⟨#[]⟩], .bool false]) ∧ Below w.heap.size w w' := by
  have HB0 := hid ((Below.refl w.heap.size w).alloc (Nat.le_refl _) (.cells #[.int .i64 0, .string ⟨#[]⟩] 76))
  have M0 := hid (heap_alloc_new w (.cells #[.int .i64 0, .string ⟨#[]⟩] 76))
  have C := hid (cPeTop0 B g o cur T v _ (h.below HB0.out))
  clear h
  go_enter Try.func76, Try.ntmps76
  go_wp2_with fail
  refine C.out.mono ?_
  rintro e w1 ⟨rfl, hb1⟩
  have HB1 := hid (bb HB0.out hb1)
  have M1 := hid (blk_below M0.out hb1)
  obtain ⟨⟨m0, m1⟩, f0, f1⟩ := box2e M1.out
  have hw1 : w.heap.size < w1.heap.size := by have := hb1.size; simp at this; omega
  have hg3 : ¬ w.heap.size = w1.heap.size := by omega
  clear hb1 C M0 HB0
  go_wp2_with fail
  have hM3 := blk_alloc (box_set2 (u := .int .i64 0) (v := .string ⟨#[]⟩) M1.out) (.cells #[.int .i64 0, .string ⟨#[]⟩] 76)
  have HK3 := hid (((HB1.out.setCell (p := ⟨w.heap.size, 0, none⟩) (Nat.le_refl _) (.int .i64 0)).setCell (p := ⟨w.heap.size, 1, none⟩) (Nat.le_refl _) (.string ⟨#[]⟩)).alloc (by simp; omega) (.cells #[.int .i64 0, .string ⟨#[]⟩] 76))
  generalize (((w1.setCell ⟨w.heap.size, 0, none⟩ (.int .i64 0)).setCell ⟨w.heap.size, 1, none⟩ (.string ⟨#[]⟩)).alloc (.cells #[.int .i64 0, .string ⟨#[]⟩] 76)) = W at *
  obtain ⟨⟨r0, r1⟩, _⟩ := box2e hM3
  exact bodyPost_ret (v := .tuple #[.agg #[.int .i64 0, .string ⟨#[]⟩], .bool false]) (by simp [results, Try.results76, go_sem, r0, r1]) rfl ⟨rfl, HK3.out⟩

set_option maxHeartbeats 4000000 in
theorem cPeLay (B g o : Nat) (cur : Array Value) (T : TypeId) (v : Value) (x : Nat × ByteArray) (L : List (Nat × ByteArray)) (w : World) (h : PileE w B g o cur T v L) (hn : L.length ≤ 1048576) :
    Calls Try.prog 54 #[.pointer (some ⟨g, o, none⟩), .agg #[.int .i64 (x.1 : Int), .string x.2]] w fun e w' => e = .returned (.tuple #[]) ∧ (∃ v', PileE w' B g o (cur.setIfInBounds o v') T v' (x :: L) ∧ (v'.ownBlock = v.ownBlock ∨ ∃ k, v'.ownBlock = some k ∧ w.heap.size ≤ k)) ∧ KeepB (fun k => k = g ∨ v.ownBlock = some k) w w' := by
  obtain ⟨i0, hi, hz0, hz1, hz2⟩ := info_parts infoEl
  obtain ⟨x1, x2⟩ := x
  simp only
  have c0 := h.cell
  have hlt := h.lt
  have fz := frozen_of_row w g o cur T h.blk
  have hB : B ≤ w.heap.size := Nat.le_trans h.ge (Nat.le_of_lt hlt)
  have HB0 := hid (((Below.refl w.heap.size w).alloc (Nat.le_refl _) (.cells #[.int .i64 (x1 : Int), .string x2] 76)).alloc (by simp) (.cells #[.int .i64 (x1 : Int), .string x2] 76))
  have HP := hid (h.below HB0.out)
  have HNE := hid (show ∀ j u, [Value.int .i64 (x1 : Int), .string x2][j]? = some u → ((w.alloc (.cells #[.int .i64 (x1 : Int), .string x2] 76)).alloc (.cells #[.int .i64 (x1 : Int), .string x2] 76)).cell? ((⟨w.heap.size + 1, 0, none⟩ : Addr).add j) = some u by
    have := two_cells (w.alloc (.cells #[.int .i64 (x1 : Int), .string x2] 76)) (.int .i64 (x1 : Int)) (.string x2) 76
    rw [show (w.alloc (.cells #[.int .i64 (x1 : Int), .string x2] 76)).heap.size = w.heap.size + 1 by simp] at this
    exact this)
  have HON := hid (show ∀ u ∈ [Value.int .i64 (x1 : Int), .string x2], u.oneCell' = true by
    intro u hu
    simp at hu
    rcases hu with rfl | rfl <;> rfl)
  have HVB := hid (fun k (e : v.ownBlock = some k) => h.row.lt k e)
  have HHT := hid h.own_ne
  clear h
  go_enter Try.func54, Try.ntmps54
  go_wp2_with fail
  go_region_law (refine step_app_at rfl (.tmp 8) (.tmp 10) 70 rfl B 76 i0 (.agg #[.int .i64 0, .string ⟨#[]⟩]) 2 24 Try.underlying70 hi hz0 hz1 hz2 rfl (by decide) v L.length (elC L.reverse) (by simp [Act.eval, Act.put]) HP.out.row ⟨w.heap.size + 1, 0, none⟩ 1 1 [.int .i64 (x1 : Int), .string x2] (by simp [Act.eval, Act.put]) rfl HNE.out HON.out (by unfold maxLen; omega) (by omega) (by simp; omega) ?_; intro v' w2 hown' hgrow hv'; have hblk := hid ((hgrow.block g (by simp; omega) (fun e => HP.out.own_ne e.symm)).trans HP.out.blk); obtain ⟨a', c', hvv⟩ := own_len hown'; subst hvv; have f2 := frozen_of_row w2 g o cur T hblk.out; have c2 := show w2.cell? ⟨g, o, none⟩ = some v by (rw [Lib.cell_of_heap hblk.out]; exact HP.out.at_))
  all_goals
    have hne : (Value.slice a' (L.length + 1) c').ownBlock ≠ some g := by
      rcases hv' with e | e
      · rw [e]; exact HHT.out
      · rw [e]; simp; omega
    have hp := PileAt.mk_set (w := w2) HP.out.ge hblk.out HP.out.at_ HP.out.ne hown' hne
    have hk := ((KeepB.of_below (fun k => k = g ∨ v.ownBlock = some k) HB0.out.drew).trans (KeepB.of_row hgrow (fun k e => .inr e))).trans (KeepB.of_set (p := fun k => k = g ∨ v.ownBlock = some k) w2 o (.slice a' (L.length + 1) c') (.inl rfl))
    have hv2 : (Value.slice a' (L.length + 1) c').ownBlock = v.ownBlock ∨ ∃ k, (Value.slice a' (L.length + 1) c').ownBlock = some k ∧ w.heap.size ≤ k := by
      rcases hv' with e | e
      · exact .inl e
      · exact .inr ⟨_, e, by simp; omega⟩
    have e9 : elC L.reverse ++ [.int .i64 (x1 : Int), .string x2] = elC ((x1, x2) :: L).reverse := (elC_snoc (x1, x2) L).symm
    rw [e9] at hp
    go_end0
    exact ⟨rfl, ⟨_, hp, hv2⟩, hk⟩

end Go.Proofs.Ytkcmagfbacmllab
