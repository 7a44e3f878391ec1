/- Contracts of the pile of open elements. Contracts of the pile of open elements: down to. -/
import Derived.Test.YtcjeodgfpnecgaaM20
import Derived.Test.YtcjeodgfpnecgaaM21
import Derived.Maps.AppendAt
import Derived.Deep.Upon
namespace Go.Proofs.Ytcjeodgfpnecgaa
open Go.RowKit
set_option linter.unusedVariables false
set_option linter.unusedSimpArgs false

/-- Open elements as cells. -/
def elC (l : List (Nat × ByteArray)) : List Value := l.flatMap fun x => [.int .i64 (x.1 : Int), .string x.2]

theorem elC_len (l : List (Nat × ByteArray)) : (elC l).length = l.length * 2 := by
  induction l with
  | nil => rfl
  | cons x l ih => show (elC l).length + 2 = _; rw [ih, List.length_cons]; omega

theorem elC_app (l m : List (Nat × ByteArray)) : elC (l ++ m) = elC l ++ elC m := by simp [elC]

theorem elC_one (l : List (Nat × ByteArray)) : ∀ u ∈ elC l, u.oneCell' = true := by
  intro u hu
  unfold elC at hu
  obtain ⟨x, _, hx⟩ := List.mem_flatMap.1 hu
  simp at hx
  rcases hx with rfl | rfl <;> rfl

theorem infoEl : (Try.prog.info? 80).map (fun i => (i.zero, i.size, i.bytes)) = some (some (.agg #[.int .i64 0, .string ⟨#[]⟩]), 2, 24) := by kernel_rfl

/-- Open elements, the top first. -/
abbrev PileE (w : World) (B g o : Nat) (cur : Array Value) (T : TypeId) (v : Value) (L : List (Nat × ByteArray)) : Prop := PileAt 80 2 w B g o cur T v L.length (elC L.reverse)

theorem rev_lastE (x : Nat × ByteArray) (L : List (Nat × ByteArray)) : (elC (x :: L).reverse)[L.length * 2]? = some (.int .i64 (x.1 : Int)) ∧ (elC (x :: L).reverse)[L.length * 2 + 1]? = some (.string x.2) := by
  have hl : (elC L.reverse).length = L.length * 2 := by rw [elC_len, List.length_reverse]
  rw [List.reverse_cons, elC_app, List.getElem?_append_right (by omega), List.getElem?_append_right (by omega), hl]
  simp [elC]

theorem rev_takeE (x : Nat × ByteArray) (L : List (Nat × ByteArray)) : (elC (x :: L).reverse).take (L.length * 2) = elC L.reverse := by
  rw [List.reverse_cons, elC_app, List.take_left' (by rw [elC_len, List.length_reverse])]

theorem PileAt.lessE {w : World} {B g o b c n : Nat} {cur : Array Value} {T : TypeId} {x : Nat × ByteArray} {L : List (Nat × ByteArray)} (h : PileE w B g o cur T (.slice (some ⟨b, 0, none⟩) (x :: L).length c) (x :: L)) (hn : L.length = n) :
    PileE (w.setCell ⟨g, o, none⟩ (.slice (some ⟨b, 0, none⟩) n c)) B g o (cur.setIfInBounds o (.slice (some ⟨b, 0, none⟩) n c)) T (.slice (some ⟨b, 0, none⟩) n c) L := by
  subst hn
  have h1 := own_less (m := L.length) h.row (by rw [List.length_cons]; omega)
  rw [rev_takeE] at h1
  exact h.set h1 h.own_ne

set_option maxHeartbeats 2000000 in
theorem cPeTop0 (B g o : Nat) (cur : Array Value) (T : TypeId) (v : Value) (w : World) (h : PileE w B g o cur T v []) :
    Calls Try.prog 65 #[.pointer (some ⟨g, o, none⟩)] w fun e w' => e = .returned (.tuple #[.agg #[.int .i64 0, .string ⟨#[]⟩], .bool false]) ∧ Below w.heap.size w w' := by
  have c0 := h.cell
  have hlt := h.lt
  obtain ⟨a, c, rfl⟩ := own_len h.row
  clear h
  go_enter Try.func65, Try.ntmps65
  go_wp2_with fail
  refine bodyPost_ret (v := .tuple #[.agg #[.int .i64 0, .string ⟨#[]⟩], .bool false]) (by simp [results, Try.results65, go_sem]) rfl ⟨rfl, ?_⟩
  exact ((Below.refl _ _).alloc (Nat.le_refl _) _).alloc (by simp) _

set_option maxHeartbeats 2000000 in
theorem cPeTop (B g o : Nat) (cur : Array Value) (T : TypeId) (v : Value) (x : Nat × ByteArray) (L : List (Nat × ByteArray)) (w : World) (h : PileE w B g o cur T v (x :: L)) (hn : L.length ≤ 1048576) :
    Calls Try.prog 65 #[.pointer (some ⟨g, o, none⟩)] w fun e w' => e = .returned (.tuple #[.agg #[.int .i64 (x.1 : Int), .string x.2], .bool true]) ∧ Below w.heap.size w w' := by
  have c0 := h.cell
  have hlt := h.lt
  obtain ⟨b, c, rfl, hb, _, hc, hcs⟩ := own_pos h.row (Nat.succ_pos _)
  have c1 := hcs (L.length * 2) (by rw [List.length_cons]; omega)
  have c2 := hcs (L.length * 2 + 1) (by rw [List.length_cons]; omega)
  rw [(rev_lastE x L).1] at c1
  rw [(rev_lastE x L).2] at c2
  clear h hcs
  rw [List.length_cons] at c0 hc
  obtain ⟨n, hnn⟩ : ∃ n, L.length = n := ⟨_, rfl⟩
  rw [hnn] at c0 c1 c2 hn hc
  clear hnn
  obtain ⟨x1, x2⟩ := x
  simp only at c1 c2 ⊢
  have hq : ((n + 1 : Nat) : Int) = (n : Int) + 1 := by omega
  have hd : (((n : Int) + 1) == 0) = false := by simp; omega
  go_enter Try.func65, Try.ntmps65
  go_wp2_with fail
  go_region
  go_wp2_with fail
  refine bodyPost_ret (v := .tuple #[.agg #[.int .i64 (x1 : Int), .string x2], .bool true]) (by simp [results, Try.results65, go_sem]) rfl ⟨rfl, ?_⟩
  exact ((Below.refl _ _).alloc (Nat.le_refl _) _).drew

theorem elC_snoc (x : Nat × ByteArray) (L : List (Nat × ByteArray)) : elC (x :: L).reverse = elC L.reverse ++ [.int .i64 (x.1 : Int), .string x.2] := by
  rw [List.reverse_cons, elC_app]
  rfl

theorem KeepB.of_row {p : Nat → Prop} {w w' : World} {row : Option Nat} (h : w.grownBy w' row) (hp : ∀ k, row = some k → p k) : KeepB p w w' :=
  ⟨h.os, h.tape, h.output, h.size, fun i hi hr => h.block i hi (fun e => hr (hp i e.symm))⟩

theorem KeepB.base {p : Nat → Prop} {w a b : World} (h : KeepB p w a) (hb : Below w.heap.size a b) : KeepB p w b :=
  ⟨hb.os.trans h.os, hb.tape.trans h.tape, hb.output.trans h.output, Nat.le_trans h.size hb.size, fun k hk hp => (hb.block k hk).trans (h.block k hk hp)⟩

set_option maxHeartbeats 4000000 in
theorem cPeTake (B g o : Nat) (cur : Array Value) (T : TypeId) (v : Value) (x : Nat × ByteArray) (L : List (Nat × ByteArray)) (w : World) (h : PileE w B g o cur T v (x :: L)) (hn : L.length ≤ 1048576) :
    Calls Try.prog 66 #[.pointer (some ⟨g, o, none⟩)] w fun e w' => e = .returned (.tuple #[.agg #[.int .i64 (x.1 : Int), .string x.2], .bool true]) ∧ (∃ v', PileE w' B g o (cur.setIfInBounds o v') T v' L ∧ v'.ownBlock = v.ownBlock) ∧ KeepB (fun k => k = g) w w' := by
  have HB0 := hid ((Below.refl w.heap.size w).alloc (Nat.le_refl _) (.cells #[.int .i64 0, .string ⟨#[]⟩] 80))
  have M0 := hid (heap_alloc_new w (.cells #[.int .i64 0, .string ⟨#[]⟩] 80))
  have C := hid (cPeTop B g o cur T v x L _ (h.below HB0.out) hn)
  obtain ⟨b, c, rfl, hb, _, hc, hcs⟩ := own_pos h.row (Nat.succ_pos _)
  clear hcs
  have HP := hid h
  have hgw := h.lt
  clear h
  obtain ⟨n, hnn⟩ : ∃ n, L.length = n := ⟨_, rfl⟩
  have HN := hid hnn
  have hl : (x :: L).length = n + 1 := by rw [List.length_cons, hnn]
  have HL := hid hl
  rw [hl] at hc
  rw [hnn] at hn
  clear hnn hl
  obtain ⟨x1, x2⟩ := x
  simp only at C ⊢
  go_enter Try.func66, Try.ntmps66
  go_wp2_with fail
  refine C.out.mono ?_
  rintro e w1 ⟨rfl, hb1⟩
  have HB1 := hid (bb HB0.out hb1)
  have HP1 := hid ((HP.out.below HB0.out).below hb1)
  have M1 := hid (blk_below M0.out hb1)
  obtain ⟨⟨m0, m1⟩, f0, f1⟩ := box2e M1.out
  have c0 := HP1.out.cell
  have fz := frozen_of_row w1 g o cur T HP1.out.blk
  have hlt := HP1.out.lt
  have hw1 : w.heap.size < w1.heap.size := by have := hb1.size; simp at this; omega
  rw [HL.out] at c0
  have HS := hid (HP1.out.lessE HN.out)
  clear hb1 C HP M0 HB0
  have hq : ((n + 1 : Nat) : Int) = (n : Int) + 1 := by omega
  have hg1 : ¬ g = w1.heap.size := by omega
  have hg2 : ¬ g = w.heap.size := by omega
  have hg3 : ¬ w.heap.size = w1.heap.size := by omega
  have hg1' : ¬ w1.heap.size = g := by omega
  have hg2' : ¬ w.heap.size = g := by omega
  go_wp2_with fail
  go_region
  go_wp2_with fail
  have HP3 := hid ((((HS.out.keep (KeepB.of_set (p := fun k => k = w.heap.size) _ 0 (.int .i64 (x1 : Int)) rfl) hg2 (by simp [Value.ownBlock]; omega)).keep (KeepB.of_set (p := fun k => k = w.heap.size) _ 1 (.string x2) rfl) hg2 (by simp [Value.ownBlock]; omega)).below ((Below.refl _ _).alloc (Nat.le_refl _) (.cells #[.int .i64 (x1 : Int), .string x2] 80))).drew)
  have HK3 := hid (((KeepB.of_below (fun k => k = g) HB1.out).trans (KeepB.of_set (p := fun k => k = g) _ o (.slice (some ⟨b, 0, none⟩) n c) rfl)).base (((((Below.refl w.heap.size _).setCell (p := ⟨w.heap.size, 0, none⟩) (Nat.le_refl _) (.int .i64 (x1 : Int))).setCell (p := ⟨w.heap.size, 1, none⟩) (Nat.le_refl _) (.string x2)).alloc (by simp; omega) (.cells #[.int .i64 (x1 : Int), .string x2] 80)).drew))
  have hM3 := blk_alloc (box_set2 (u := .int .i64 (x1 : Int)) (v := .string x2) ((heap_setCell_other w1 ⟨g, o, none⟩ w.heap.size (.slice (some ⟨b, 0, none⟩) n c) hg2').trans M1.out)) (.cells #[.int .i64 (x1 : Int), .string x2] 80)
  obtain ⟨W, hW⟩ : ∃ W, ((((w1.setCell ⟨g, o, none⟩ (.slice (some ⟨b, 0, none⟩) n c)).setCell ⟨w.heap.size, 0, none⟩ (.int .i64 (x1 : Int))).setCell ⟨w.heap.size, 1, none⟩ (.string x2)).alloc (.cells #[.int .i64 (x1 : Int), .string x2] 80)).drew = W := ⟨_, rfl⟩
  have hM4 : W.heap[w.heap.size]? = some (.cells #[.int .i64 (x1 : Int), .string x2] 80 (0, 0)) := by rw [← hW]; exact hM3
  obtain ⟨⟨r0, r1⟩, _⟩ := box2e hM4
  rw [hW] at HP3 HK3 ⊢
  exact bodyPost_ret (v := .tuple #[.agg #[.int .i64 (x1 : Int), .string x2], .bool true]) (by simp [results, Try.results66, go_sem, r0, r1]) rfl ⟨rfl, ⟨_, HP3.out, rfl⟩, HK3.out⟩

set_option maxHeartbeats 4000000 in
theorem cPeTake0 (B g o : Nat) (cur : Array Value) (T : TypeId) (v : Value) (w : World) (h : PileE w B g o cur T v []) :
    Calls Try.prog 66 #[.pointer (some ⟨g, o, none⟩)] w fun e w' => e = .returned (.tuple #[.agg #[.int .i64 0, .string ⟨#[]⟩], .bool false]) ∧ Below w.heap.size w w' := by
  have HB0 := hid ((Below.refl w.heap.size w).alloc (Nat.le_refl _) (.cells #[.int .i64 0, .string ⟨#[]⟩] 80))
  have M0 := hid (heap_alloc_new w (.cells #[.int .i64 0, .string ⟨#[]⟩] 80))
  have C := hid (cPeTop0 B g o cur T v _ (h.below HB0.out))
  clear h
  go_enter Try.func66, Try.ntmps66
  go_wp2_with fail
  refine C.out.mono ?_
  rintro e w1 ⟨rfl, hb1⟩
  have HB1 := hid (bb HB0.out hb1)
  have M1 := hid (blk_below M0.out hb1)
  obtain ⟨⟨m0, m1⟩, f0, f1⟩ := box2e M1.out
  have hw1 : w.heap.size < w1.heap.size := by have := hb1.size; simp at this; omega
  have hg3 : ¬ w.heap.size = w1.heap.size := by omega
  clear hb1 C M0 HB0
  go_wp2_with fail
  have hM3 := blk_alloc (box_set2 (u := .int .i64 0) (v := .string ⟨#[]⟩) M1.out) (.cells #[.int .i64 0, .string ⟨#[]⟩] 80)
  have HK3 := hid (((HB1.out.setCell (p := ⟨w.heap.size, 0, none⟩) (Nat.le_refl _) (.int .i64 0)).setCell (p := ⟨w.heap.size, 1, none⟩) (Nat.le_refl _) (.string ⟨#[]⟩)).alloc (by simp; omega) (.cells #[.int .i64 0, .string ⟨#[]⟩] 80))
  generalize (((w1.setCell ⟨w.heap.size, 0, none⟩ (.int .i64 0)).setCell ⟨w.heap.size, 1, none⟩ (.string ⟨#[]⟩)).alloc (.cells #[.int .i64 0, .string ⟨#[]⟩] 80)) = W at *
  obtain ⟨⟨r0, r1⟩, _⟩ := box2e hM3
  exact bodyPost_ret (v := .tuple #[.agg #[.int .i64 0, .string ⟨#[]⟩], .bool false]) (by simp [results, Try.results66, go_sem, r0, r1]) rfl ⟨rfl, HK3.out⟩

set_option maxHeartbeats 4000000 in
theorem cPeLay (B g o : Nat) (cur : Array Value) (T : TypeId) (v : Value) (x : Nat × ByteArray) (L : List (Nat × ByteArray)) (w : World) (h : PileE w B g o cur T v L) (hn : L.length ≤ 1048576) :
    Calls Try.prog 44 #[.pointer (some ⟨g, o, none⟩), .agg #[.int .i64 (x.1 : Int), .string x.2]] w fun e w' => e = .returned (.tuple #[]) ∧ (∃ v', PileE w' B g o (cur.setIfInBounds o v') T v' (x :: L) ∧ (v'.ownBlock = v.ownBlock ∨ ∃ k, v'.ownBlock = some k ∧ w.heap.size ≤ k)) ∧ KeepB (fun k => k = g ∨ v.ownBlock = some k) w w' := by
  obtain ⟨i0, hi, hz0, hz1, hz2⟩ := info_parts infoEl
  obtain ⟨x1, x2⟩ := x
  simp only
  have c0 := h.cell
  have hlt := h.lt
  have fz := frozen_of_row w g o cur T h.blk
  have hB : B ≤ w.heap.size := Nat.le_trans h.ge (Nat.le_of_lt hlt)
  have HB0 := hid (((Below.refl w.heap.size w).alloc (Nat.le_refl _) (.cells #[.int .i64 (x1 : Int), .string x2] 80)).alloc (by simp) (.cells #[.int .i64 (x1 : Int), .string x2] 80))
  have HP := hid (h.below HB0.out)
  have HNE := hid (show ∀ j u, [Value.int .i64 (x1 : Int), .string x2][j]? = some u → ((w.alloc (.cells #[.int .i64 (x1 : Int), .string x2] 80)).alloc (.cells #[.int .i64 (x1 : Int), .string x2] 80)).cell? ((⟨w.heap.size + 1, 0, none⟩ : Addr).add j) = some u by
    have := two_cells (w.alloc (.cells #[.int .i64 (x1 : Int), .string x2] 80)) (.int .i64 (x1 : Int)) (.string x2) 80
    rw [show (w.alloc (.cells #[.int .i64 (x1 : Int), .string x2] 80)).heap.size = w.heap.size + 1 by simp] at this
    exact this)
  have HON := hid (show ∀ u ∈ [Value.int .i64 (x1 : Int), .string x2], u.oneCell' = true by
    intro u hu
    simp at hu
    rcases hu with rfl | rfl <;> rfl)
  have HVB := hid (fun k (e : v.ownBlock = some k) => h.row.lt k e)
  have HHT := hid h.own_ne
  clear h
  go_enter Try.func44, Try.ntmps44
  go_wp2_with fail
  go_region_law (refine step_app_at rfl (.tmp 8) (.tmp 10) 74 rfl B 80 i0 (.agg #[.int .i64 0, .string ⟨#[]⟩]) 2 24 Try.underlying74 hi hz0 hz1 hz2 rfl (by decide) v L.length (elC L.reverse) (by simp [Act.eval, Act.put]) HP.out.row ⟨w.heap.size + 1, 0, none⟩ 1 1 [.int .i64 (x1 : Int), .string x2] (by simp [Act.eval, Act.put]) rfl HNE.out HON.out (by unfold maxLen; omega) (by omega) (by simp; omega) ?_; intro v' w2 hown' hgrow hv'; have hblk := hid ((hgrow.block g (by simp; omega) (fun e => HP.out.own_ne e.symm)).trans HP.out.blk); obtain ⟨a', c', hvv⟩ := own_len hown'; subst hvv; have f2 := frozen_of_row w2 g o cur T hblk.out; have c2 := show w2.cell? ⟨g, o, none⟩ = some v by (rw [Lib.cell_of_heap hblk.out]; exact HP.out.at_))
  all_goals
    have hne : (Value.slice a' (L.length + 1) c').ownBlock ≠ some g := by
      rcases hv' with e | e
      · rw [e]; exact HHT.out
      · rw [e]; simp; omega
    have hp := PileAt.mk_set (w := w2) HP.out.ge hblk.out HP.out.at_ HP.out.ne hown' hne
    have hk := ((KeepB.of_below (fun k => k = g ∨ v.ownBlock = some k) HB0.out.drew).trans (KeepB.of_row hgrow (fun k e => .inr e))).trans (KeepB.of_set (p := fun k => k = g ∨ v.ownBlock = some k) w2 o (.slice a' (L.length + 1) c') (.inl rfl))
    have hv2 : (Value.slice a' (L.length + 1) c').ownBlock = v.ownBlock ∨ ∃ k, (Value.slice a' (L.length + 1) c').ownBlock = some k ∧ w.heap.size ≤ k := by
      rcases hv' with e | e
      · exact .inl e
      · exact .inr ⟨_, e, by simp; omega⟩
    have e9 : elC L.reverse ++ [.int .i64 (x1 : Int), .string x2] = elC ((x1, x2) :: L).reverse := (elC_snoc (x1, x2) L).symm
    rw [e9] at hp
    go_end0
    exact ⟨rfl, ⟨_, hp, hv2⟩, hk⟩

end Go.Proofs.Ytcjeodgfpnecgaa

namespace Go.Proofs.Ytcjeodgfpnecgaa
open Go.RowKit
set_option linter.unusedVariables false
set_option linter.unusedSimpArgs false

theorem takeWhile_at {α : Type} {p : α → Bool} : ∀ {l : List α} {i : Nat}, i ≤ l.length → (∀ x ∈ l.take i, p x = true) → (∀ h : i < l.length, p l[i] = false) → l.takeWhile p = l.take i
  | [], i, _, _, _ => by simp
  | x :: l, 0, _, _, h => by
    have := h (by simp)
    simp only [List.getElem_cons_zero] at this
    rw [List.takeWhile_cons, this]
    rfl
  | x :: l, i + 1, hi, h1, h2 => by
    rw [List.takeWhile_cons, h1 x (by simp), List.take_succ_cons]
    simp only [if_true]
    rw [takeWhile_at (by simpa using hi) (fun y hy => h1 y (by simp [hy])) (fun h => by have := h2 (by simpa using h); simpa using this)]

def topE : List (Nat × ByteArray) → Nat × ByteArray
  | [] => (0, ⟨#[]⟩)
  | x :: _ => x

theorem cPeTopA (B g o : Nat) (cur : Array Value) (T : TypeId) (v : Value) (L : List (Nat × ByteArray)) (w : World) (h : PileE w B g o cur T v L) (hn : L.length ≤ 1000) :
    Calls Try.prog 65 #[.pointer (some ⟨g, o, none⟩)] w fun e w' => e = .returned (.tuple #[.agg #[.int .i64 ((topE L).1 : Int), .string (topE L).2], .bool (decide (0 < L.length))]) ∧ Below w.heap.size w w' := by
  cases L with
  | nil => exact cPeTop0 B g o cur T v w h
  | cons x L =>
    rw [show decide (0 < (x :: L).length) = true from decide_eq_true (Nat.succ_pos _)]
    exact cPeTop B g o cur T v x L w h (by rw [List.length_cons] at hn; omega)

/-- What downTo knows. -/
structure DownE (w : World) (B g o : Nat) (cur : Array Value) (T : TypeId) (v0 : Value) (L : List (Nat × ByteArray)) (kp : Nat × ByteArray → Bool) (i : Nat) (wr : World) (v : Value) (b6 : Nat) : Prop where
  no : ∀ x ∈ L.take i, (!kp x) = true
  pile : ∃ cur' v', PileE wr B g o cur' T v' (L.drop i) ∧ SameBut o cur cur' ∧ v'.ownBlock = v0.ownBlock
  own : wr.ownsRow w.heap.size 80 2 v i (elC (L.take i))
  keep : KeepB (fun k => k = g) w wr
  box : wr.heap[b6]? = some (.cells #[.int .i64 ((topE (L.drop i)).1 : Int), .string (topE (L.drop i)).2] 80 (0, 0))
  bge : w.heap.size ≤ b6
  bne : v.ownBlock ≠ some b6

set_option maxRecDepth 8000 in
set_option maxHeartbeats 8000000 in
theorem cPeDown1 (B g o : Nat) (cur : Array Value) (T : TypeId) (v0 : Value) (L : List (Nat × ByteArray)) (kp : Nat × ByteArray → Bool) (b : Nat) (w : World) (h : PileE w B g o cur T v0 L) (hn : L.length ≤ 1000)
    (hC : ∀ (x : Nat × ByteArray) (wr : World), KeepB (fun k => k = g) w wr → Calls Try.prog 40 #[.agg #[.int .i64 (x.1 : Int), .string x.2], .pointer (some ⟨b, 0, none⟩)] wr fun e w' => e = .returned (.bool (kp x)) ∧ Below wr.heap.size wr w') :
    Calls Try.prog 39 #[.pointer (some ⟨g, o, none⟩), .func (.func 40) #[] #[.pointer (some ⟨b, 0, none⟩)]] w fun e w' => (∃ r, e = .returned r ∧ w'.ownsRow w.heap.size 80 2 r (L.takeWhile (fun x => !kp x)).length (elC (L.takeWhile (fun x => !kp x)))) ∧ (∃ cur' v', PileE w' B g o cur' T v' (L.dropWhile (fun x => !kp x)) ∧ SameBut o cur cur' ∧ v'.ownBlock = v0.ownBlock) ∧ KeepB (fun k => k = g) w w' := by
  obtain ⟨i0, hi, hz0, hz1, hz2⟩ := info_parts infoEl
  have HI := hid (And.intro hi (And.intro hz0 (And.intro hz1 hz2)))
  have HP := hid h
  have HC := hid hC
  have hgl := h.lt
  have C0 := hid (cPeTopA B g o cur T v0 L w h hn)
  clear hi hz0 hz1 hz2 h hC
  obtain ⟨n, hnn⟩ : ∃ n, L.length = n := ⟨_, rfl⟩
  have HN := hid hnn
  rw [hnn] at hn C0
  clear hnn
  have HT0 := hid (show topE (L.drop 0) = topE L from rfl)
  generalize topE L = t0 at *
  generalize hdd : decide (0 < n) = D0 at *
  have HD0 := hid hdd
  clear hdd
  go_enter Try.func39, Try.ntmps39
  go_wp2_with fail
  refine C0.out.mono ?_
  rintro e w1 ⟨rfl, hb1⟩
  have HB1 := hid hb1
  have HBA := hid (hb1.alloc hb1.size (.cells #[.int .i64 (t0.1 : Int), .string t0.2] 80))
  have M1 := hid (heap_alloc_new w1 (.cells #[.int .i64 (t0.1 : Int), .string t0.2] 80))
  clear hb1 C0
  go_wp2_with fail
  go_loopw [5, 6, 7] (fun v x y wr => ∃ i b6 : Nat, i ≤ n ∧ x = .pointer (some ⟨b6, 0, none⟩) ∧ Hid (y = .bool (decide (i < n))) ∧ Hid (DownE w B g o cur T v0 L kp i wr v b6)) (fun v _ _ _ => n - lenV v)
  case atStart => exact ⟨0, w1.heap.size, Nat.zero_le _, rfl, by rw [HD0.out]; exact rfl, ⟨fun x hx => absurd hx (by simp), ⟨cur, v0, HP.out.below HBA.out, SameBut.refl _ _, rfl⟩, World.ownsRow_nil _ _ _ _, KeepB.of_below _ HBA.out, by rw [HT0.out]; exact M1.out, HB1.out.size, fun e => by cases e⟩⟩
  case round =>
    clear HBA M1
    obtain ⟨i, b6, hin, rfl, HY, ST⟩ := hrel
    obtain ⟨cur1, v1, hp1, hs1, ho1⟩ := ST.out.pile
    have HP1 := hid hp1
    have HS1 := hid hs1
    have HO1 := hid ho1
    clear hp1 hs1 ho1 HD0 HT0
    have hy := HY.out
    clear HY
    by_cases hlt : i < n
    case neg =>
      rw [decide_eq_false hlt] at hy
      subst hy
      have HE := hid (show L.dropWhile (fun x => !kp x) = L.drop i from dropWhile_at ST.out.no (fun h => absurd h (by rw [HN.out]; exact hlt)))
      have HE2 := hid (show L.takeWhile (fun x => !kp x) = L.take i from takeWhile_at (by rw [HN.out]; exact hin) ST.out.no (fun h => absurd h (by rw [HN.out]; exact hlt)))
      have HLT := hid (show (L.take i).length = i by rw [List.length_take, HN.out]; omega)
      obtain ⟨a5, c5, rfl⟩ := own_len ST.out.own
      go_wp2_with fail
      go_ret
      exact ⟨⟨_, rfl, by rw [HE2.out, HLT.out]; exact ST.out.own⟩, ⟨cur1, v1, by rw [HE.out]; exact HP1.out, HS1.out, HO1.out⟩, ST.out.keep⟩
    have his : i < L.length := by rw [HN.out]; exact hlt
    have HDR := hid (List.drop_eq_getElem_cons his)
    obtain ⟨x, hxx⟩ : ∃ x, L[i] = x := ⟨_, rfl⟩
    have HXX := hid hxx
    rw [hxx] at HDR
    have HBX := hid ST.out.box
    rw [HDR.out] at HBX
    rw [decide_eq_true hlt] at hy
    have hx2 : topE (x :: L.drop (i + 1)) = x := rfl
    rw [hx2] at HBX
    subst hy
    clear hxx hx2
    obtain ⟨x1, x2⟩ := x
    simp only at HBX
    have HPX : Hid (PileE wr B g o cur1 T v1 ((x1, x2) :: L.drop (i + 1))) := by rw [← HDR.out]; exact HP1.out
    have hlen : (L.drop (i + 1)).length = n - (i + 1) := by rw [List.length_drop, HN.out]
    have C1 := hid (HC.out (x1, x2) wr ST.out.keep)
    simp only at C1
    obtain ⟨a5, c5, hv5⟩ := own_len ST.out.own
    obtain ⟨⟨m0, m1⟩, f0, f1⟩ := box2e HBX.out
    have hb6 := lt_of_heap HBX.out
    cases q : kp (x1, x2)
    case true =>
      have HE := hid (show L.dropWhile (fun x => !kp x) = L.drop i from dropWhile_at ST.out.no (fun h => by rw [HXX.out, q]; rfl))
      have HE2 := hid (show L.takeWhile (fun x => !kp x) = L.take i from takeWhile_at (by rw [HN.out]; exact hin) ST.out.no (fun h => by rw [HXX.out, q]; rfl))
      have HLT := hid (show (L.take i).length = i by rw [List.length_take, HN.out]; omega)
      rw [q] at C1
      clear q
      subst hv5
      go_wp2_with fail
      refine C1.out.mono ?_
      rintro e w2 ⟨rfl, hb2⟩
      have HB2 := hid hb2
      clear hb2
      go_wp2_with fail
      go_ret
      exact ⟨⟨_, rfl, by rw [HE2.out, HLT.out]; exact ownsRow_below ST.out.own HB2.out⟩, ⟨cur1, v1, by rw [HE.out]; exact HP1.out.below HB2.out, HS1.out, HO1.out⟩, ST.out.keep.below_of HB2.out⟩
    rw [q] at C1
    have HNO := hid (show ∀ y ∈ L.take (i + 1), (!kp y) = true from fun y hy => by
      rw [take_snocN his] at hy
      rcases List.mem_append.1 hy with h' | h'
      · exact ST.out.no y h'
      · rw [List.mem_singleton, HXX.out] at h'
        subst h'
        rw [q]
        rfl)
    have HTK := hid (show elC (L.take (i + 1)) = elC (L.take i) ++ [.int .i64 (x1 : Int), .string x2] by rw [take_snocN his, elC_app, HXX.out]; rfl)
    have hgb : ¬ b6 = g := by have := ST.out.bge; omega
    have HBN := hid ST.out.bne
    clear q HDR
    subst hv5
    go_wp2_with fail
    refine C1.out.mono ?_
    rintro e w2 ⟨rfl, hb2⟩
    have HOW2 := hid (ownsRow_below ST.out.own hb2)
    have HK2 := hid (ST.out.keep.below_of hb2)
    have HM2 := hid (blk_below HBX.out hb2)
    have CT := hid (cPeTake B g o cur1 T v1 (x1, x2) (L.drop (i + 1)) w2 (HPX.out.below hb2) (by rw [hlen]; omega))
    clear hb2 C1 m0 m1 f0 f1
    go_wp2_with fail
    refine CT.out.mono ?_
    rintro e w3 ⟨rfl, ⟨v3, hp3, ho3⟩, hk3⟩
    have HP3 := hid hp3
    have HK3 := hid (HK2.out.trans hk3)
    have HO3 := hid (ho3.trans HO1.out)
    have HM3 := hid ((hk3.block b6 (lt_of_heap HM2.out) hgb).trans HM2.out)
    have HOW := hid ((HOW2.out.kept (row := some g) ⟨hk3.os, hk3.tape, hk3.output, hk3.size, fun k h1 h2 => hk3.block k h1 (fun e => h2 (by rw [e]))⟩ (.inr (fun e => by have := (HOW2.out.lt g e).1; omega))).alloc (.cells #[.int .i64 (x1 : Int), .string x2] 80))
    have HP3A := hid (HP3.out.below ((Below.refl w3.heap.size w3).alloc (Nat.le_refl _) (.cells #[.int .i64 (x1 : Int), .string x2] 80)))
    have HM3A := hid (blk_alloc HM3.out (.cells #[.int .i64 (x1 : Int), .string x2] 80))
    have hsz := HK3.out.size
    obtain ⟨⟨m0, m1⟩, _⟩ := box2e HM3.out
    obtain ⟨hi, hz0, hz1, hz2⟩ := HI.out
    have HNE := hid (two_cells w3 (.int .i64 (x1 : Int)) (.string x2) 80)
    have HON := hid (show ∀ u ∈ [Value.int .i64 (x1 : Int), .string x2], u.oneCell' = true by
      intro u hu
      simp at hu
      rcases hu with rfl | rfl <;> rfl)
    clear hp3 hk3 ho3 CT
    go_wp2_with (at_builtin; refine wpList_append_own_at _ rfl _ _ 74 rfl w.heap.size 80 i0 (.agg #[.int .i64 0, .string ⟨#[]⟩]) 2 24 Try.underlying74 hi hz0 hz1 hz2 rfl (by decide) _ _ _ rfl HOW.out ⟨w3.heap.size, 0, none⟩ 1 1 [.int .i64 (x1 : Int), .string x2] rfl rfl ?c1 ?c2 ?c3 ?c4 ?c5 ?_)
    case c1 => exact HNE.out
    case c2 => exact HON.out
    case c3 => unfold maxLen; omega
    case c4 => omega
    case c5 => simp; omega
    intro v4 w4 hown' hgrow _ hv4'
    have HOW4 := hid (show w4.ownsRow w.heap.size 80 2 v4 (i + 1) (elC (L.take (i + 1))) by rw [HTK.out]; exact hown')
    have HK4 := hid (show KeepB (fun k => k = g) w w4 from ⟨hgrow.os.trans HK3.out.os, hgrow.tape.trans HK3.out.tape, hgrow.output.trans HK3.out.output, Nat.le_trans (by simp; omega) hgrow.size, fun k h1 h2 => by
      rw [hgrow.block k (by simp; omega) (fun e => by have := (HOW.out.lt k e.symm).1; omega), Below.heap_alloc _ _ _ (by omega)]
      exact HK3.out.block k h1 h2⟩)
    have HM4 := hid ((hgrow.block b6 (lt_of_heap HM3A.out) (fun e => HBN.out e.symm)).trans HM3A.out)
    have HP4 := hid (show PileE w4 B g o (cur1.setIfInBounds o v3) T v3 (L.drop (i + 1)) from ⟨HP3A.out.ge, (hgrow.block g HP3A.out.lt (fun e => by have := (HOW.out.lt g e.symm).1; omega)).trans HP3A.out.blk, HP3A.out.at_, HP3A.out.row.kept hgrow (by
      rcases h5 : v3.ownBlock with _ | k
      · exact .inl rfl
      · refine .inr (fun e => ?_)
        have h6 := (HOW.out.lt k e.symm).1
        rw [HO3.out] at h5
        have := (HP.out.row.lt k h5).2
        omega), HP3A.out.ne⟩)
    have HL4 := hid ((Below.refl w4.heap.size w4).alloc (Nat.le_refl _) (.cells #[.int .i64 (x1 : Int), .string x2] 80))
    have C5 := hid (cPeTopA B g o _ T v3 (L.drop (i + 1)) _ (HP4.out.below HL4.out) (by rw [hlen]; omega))
    have hl0 : decide (0 < (L.drop (i + 1)).length) = decide (i + 1 < n) := by rw [hlen]; by_cases h : i + 1 < n <;> simp <;> omega
    rw [hl0] at C5
    obtain ⟨a4, c4, hv4⟩ := own_len hown'
    have HVL := hid (fun k (e : v4.ownBlock = some k) => (HOW4.out.lt k e).2)
    generalize htt : topE (L.drop (i + 1)) = tt at C5
    generalize hdd : decide (i + 1 < n) = dd at C5
    have HTT := hid htt
    have HDD := hid hdd
    have MB := hid (heap_alloc_new w4 (.cells #[.int .i64 (x1 : Int), .string x2] 80))
    obtain ⟨⟨n0, n1⟩, _⟩ := box2e HM4.out
    have hsz4 := HK4.out.size
    subst hv4
    clear hown' hgrow htt hdd hl0 m0 m1 hv4'
    go_wp2_with fail
    refine C5.out.mono ?_
    rintro e w5 ⟨rfl, hb5⟩
    have HB5 := hid (bb HL4.out hb5)
    have HM5 := hid (blk_below MB.out hb5)
    obtain ⟨⟨p0, p1⟩, f0, f1⟩ := box2e HM5.out
    have hw5 : w4.heap.size < w5.heap.size := by have := hb5.size; simp at this; omega
    clear hb5
    go_wp2_with fail
    have HST := hid (((Below.refl w4.heap.size w5).setCell (p := ⟨w4.heap.size, 0, none⟩) (Nat.le_refl _) (.int .i64 (tt.1 : Int))).setCell (p := ⟨w4.heap.size, 1, none⟩) (Nat.le_refl _) (.string tt.2))
    have HBS := hid (HB5.out.trans HST.out)
    have HMS := hid (box_set2 (u := .int .i64 (tt.1 : Int)) (v := .string tt.2) HM5.out)
    go_roundw
    case rel => exact ⟨i + 1, w4.heap.size, by omega, rfl, by rw [HDD.out]; exact rfl, ⟨HNO.out, ⟨_, v3, HP4.out.below HBS.out, HS1.out.set _, HO3.out⟩, ownsRow_below HOW4.out HBS.out, HK4.out.below_of HBS.out, by rw [HTT.out]; exact HMS.out, hsz4, fun e => by have := HVL.out _ e; omega⟩⟩
    case measure => simp [lenV]; omega

set_option maxRecDepth 8000 in
set_option maxHeartbeats 8000000 in
theorem cPeDown2 (B g o : Nat) (cur : Array Value) (T : TypeId) (v0 : Value) (L : List (Nat × ByteArray)) (kp : Nat × ByteArray → Bool) (w : World) (h : PileE w B g o cur T v0 L) (hn : L.length ≤ 1000)
    (hC : ∀ (x : Nat × ByteArray) (wr : World), KeepB (fun k => k = g) w wr → Calls Try.prog 45 #[.agg #[.int .i64 (x.1 : Int), .string x.2]] wr fun e w' => e = .returned (.bool (kp x)) ∧ Below wr.heap.size wr w') :
    Calls Try.prog 39 #[.pointer (some ⟨g, o, none⟩), .func (.func 45) #[] #[]] w fun e w' => (∃ r, e = .returned r ∧ w'.ownsRow w.heap.size 80 2 r (L.takeWhile (fun x => !kp x)).length (elC (L.takeWhile (fun x => !kp x)))) ∧ (∃ cur' v', PileE w' B g o cur' T v' (L.dropWhile (fun x => !kp x)) ∧ SameBut o cur cur' ∧ v'.ownBlock = v0.ownBlock) ∧ KeepB (fun k => k = g) w w' := by
  obtain ⟨i0, hi, hz0, hz1, hz2⟩ := info_parts infoEl
  have HI := hid (And.intro hi (And.intro hz0 (And.intro hz1 hz2)))
  have HP := hid h
  have HC := hid hC
  have hgl := h.lt
  have C0 := hid (cPeTopA B g o cur T v0 L w h hn)
  clear hi hz0 hz1 hz2 h hC
  obtain ⟨n, hnn⟩ : ∃ n, L.length = n := ⟨_, rfl⟩
  have HN := hid hnn
  rw [hnn] at hn C0
  clear hnn
  have HT0 := hid (show topE (L.drop 0) = topE L from rfl)
  generalize topE L = t0 at *
  generalize hdd : decide (0 < n) = D0 at *
  have HD0 := hid hdd
  clear hdd
  go_enter Try.func39, Try.ntmps39
  go_wp2_with fail
  refine C0.out.mono ?_
  rintro e w1 ⟨rfl, hb1⟩
  have HB1 := hid hb1
  have HBA := hid (hb1.alloc hb1.size (.cells #[.int .i64 (t0.1 : Int), .string t0.2] 80))
  have M1 := hid (heap_alloc_new w1 (.cells #[.int .i64 (t0.1 : Int), .string t0.2] 80))
  clear hb1 C0
  go_wp2_with fail
  go_loopw [5, 6, 7] (fun v x y wr => ∃ i b6 : Nat, i ≤ n ∧ x = .pointer (some ⟨b6, 0, none⟩) ∧ Hid (y = .bool (decide (i < n))) ∧ Hid (DownE w B g o cur T v0 L kp i wr v b6)) (fun v _ _ _ => n - lenV v)
  case atStart => exact ⟨0, w1.heap.size, Nat.zero_le _, rfl, by rw [HD0.out]; exact rfl, ⟨fun x hx => absurd hx (by simp), ⟨cur, v0, HP.out.below HBA.out, SameBut.refl _ _, rfl⟩, World.ownsRow_nil _ _ _ _, KeepB.of_below _ HBA.out, by rw [HT0.out]; exact M1.out, HB1.out.size, fun e => by cases e⟩⟩
  case round =>
    clear HBA M1
    obtain ⟨i, b6, hin, rfl, HY, ST⟩ := hrel
    obtain ⟨cur1, v1, hp1, hs1, ho1⟩ := ST.out.pile
    have HP1 := hid hp1
    have HS1 := hid hs1
    have HO1 := hid ho1
    clear hp1 hs1 ho1 HD0 HT0
    have hy := HY.out
    clear HY
    by_cases hlt : i < n
    case neg =>
      rw [decide_eq_false hlt] at hy
      subst hy
      have HE := hid (show L.dropWhile (fun x => !kp x) = L.drop i from dropWhile_at ST.out.no (fun h => absurd h (by rw [HN.out]; exact hlt)))
      have HE2 := hid (show L.takeWhile (fun x => !kp x) = L.take i from takeWhile_at (by rw [HN.out]; exact hin) ST.out.no (fun h => absurd h (by rw [HN.out]; exact hlt)))
      have HLT := hid (show (L.take i).length = i by rw [List.length_take, HN.out]; omega)
      obtain ⟨a5, c5, rfl⟩ := own_len ST.out.own
      go_wp2_with fail
      go_ret
      exact ⟨⟨_, rfl, by rw [HE2.out, HLT.out]; exact ST.out.own⟩, ⟨cur1, v1, by rw [HE.out]; exact HP1.out, HS1.out, HO1.out⟩, ST.out.keep⟩
    have his : i < L.length := by rw [HN.out]; exact hlt
    have HDR := hid (List.drop_eq_getElem_cons his)
    obtain ⟨x, hxx⟩ : ∃ x, L[i] = x := ⟨_, rfl⟩
    have HXX := hid hxx
    rw [hxx] at HDR
    have HBX := hid ST.out.box
    rw [HDR.out] at HBX
    rw [decide_eq_true hlt] at hy
    have hx2 : topE (x :: L.drop (i + 1)) = x := rfl
    rw [hx2] at HBX
    subst hy
    clear hxx hx2
    obtain ⟨x1, x2⟩ := x
    simp only at HBX
    have HPX : Hid (PileE wr B g o cur1 T v1 ((x1, x2) :: L.drop (i + 1))) := by rw [← HDR.out]; exact HP1.out
    have hlen : (L.drop (i + 1)).length = n - (i + 1) := by rw [List.length_drop, HN.out]
    have C1 := hid (HC.out (x1, x2) wr ST.out.keep)
    simp only at C1
    obtain ⟨a5, c5, hv5⟩ := own_len ST.out.own
    obtain ⟨⟨m0, m1⟩, f0, f1⟩ := box2e HBX.out
    have hb6 := lt_of_heap HBX.out
    cases q : kp (x1, x2)
    case true =>
      have HE := hid (show L.dropWhile (fun x => !kp x) = L.drop i from dropWhile_at ST.out.no (fun h => by rw [HXX.out, q]; rfl))
      have HE2 := hid (show L.takeWhile (fun x => !kp x) = L.take i from takeWhile_at (by rw [HN.out]; exact hin) ST.out.no (fun h => by rw [HXX.out, q]; rfl))
      have HLT := hid (show (L.take i).length = i by rw [List.length_take, HN.out]; omega)
      rw [q] at C1
      clear q
      subst hv5
      go_wp2_with fail
      refine C1.out.mono ?_
      rintro e w2 ⟨rfl, hb2⟩
      have HB2 := hid hb2
      clear hb2
      go_wp2_with fail
      go_ret
      exact ⟨⟨_, rfl, by rw [HE2.out, HLT.out]; exact ownsRow_below ST.out.own HB2.out⟩, ⟨cur1, v1, by rw [HE.out]; exact HP1.out.below HB2.out, HS1.out, HO1.out⟩, ST.out.keep.below_of HB2.out⟩
    rw [q] at C1
    have HNO := hid (show ∀ y ∈ L.take (i + 1), (!kp y) = true from fun y hy => by
      rw [take_snocN his] at hy
      rcases List.mem_append.1 hy with h' | h'
      · exact ST.out.no y h'
      · rw [List.mem_singleton, HXX.out] at h'
        subst h'
        rw [q]
        rfl)
    have HTK := hid (show elC (L.take (i + 1)) = elC (L.take i) ++ [.int .i64 (x1 : Int), .string x2] by rw [take_snocN his, elC_app, HXX.out]; rfl)
    have hgb : ¬ b6 = g := by have := ST.out.bge; omega
    have HBN := hid ST.out.bne
    clear q HDR
    subst hv5
    go_wp2_with fail
    refine C1.out.mono ?_
    rintro e w2 ⟨rfl, hb2⟩
    have HOW2 := hid (ownsRow_below ST.out.own hb2)
    have HK2 := hid (ST.out.keep.below_of hb2)
    have HM2 := hid (blk_below HBX.out hb2)
    have CT := hid (cPeTake B g o cur1 T v1 (x1, x2) (L.drop (i + 1)) w2 (HPX.out.below hb2) (by rw [hlen]; omega))
    clear hb2 C1 m0 m1 f0 f1
    go_wp2_with fail
    refine CT.out.mono ?_
    rintro e w3 ⟨rfl, ⟨v3, hp3, ho3⟩, hk3⟩
    have HP3 := hid hp3
    have HK3 := hid (HK2.out.trans hk3)
    have HO3 := hid (ho3.trans HO1.out)
    have HM3 := hid ((hk3.block b6 (lt_of_heap HM2.out) hgb).trans HM2.out)
    have HOW := hid ((HOW2.out.kept (row := some g) ⟨hk3.os, hk3.tape, hk3.output, hk3.size, fun k h1 h2 => hk3.block k h1 (fun e => h2 (by rw [e]))⟩ (.inr (fun e => by have := (HOW2.out.lt g e).1; omega))).alloc (.cells #[.int .i64 (x1 : Int), .string x2] 80))
    have HP3A := hid (HP3.out.below ((Below.refl w3.heap.size w3).alloc (Nat.le_refl _) (.cells #[.int .i64 (x1 : Int), .string x2] 80)))
    have HM3A := hid (blk_alloc HM3.out (.cells #[.int .i64 (x1 : Int), .string x2] 80))
    have hsz := HK3.out.size
    obtain ⟨⟨m0, m1⟩, _⟩ := box2e HM3.out
    obtain ⟨hi, hz0, hz1, hz2⟩ := HI.out
    have HNE := hid (two_cells w3 (.int .i64 (x1 : Int)) (.string x2) 80)
    have HON := hid (show ∀ u ∈ [Value.int .i64 (x1 : Int), .string x2], u.oneCell' = true by
      intro u hu
      simp at hu
      rcases hu with rfl | rfl <;> rfl)
    clear hp3 hk3 ho3 CT
    go_wp2_with (at_builtin; refine wpList_append_own_at _ rfl _ _ 74 rfl w.heap.size 80 i0 (.agg #[.int .i64 0, .string ⟨#[]⟩]) 2 24 Try.underlying74 hi hz0 hz1 hz2 rfl (by decide) _ _ _ rfl HOW.out ⟨w3.heap.size, 0, none⟩ 1 1 [.int .i64 (x1 : Int), .string x2] rfl rfl ?c1 ?c2 ?c3 ?c4 ?c5 ?_)
    case c1 => exact HNE.out
    case c2 => exact HON.out
    case c3 => unfold maxLen; omega
    case c4 => omega
    case c5 => simp; omega
    intro v4 w4 hown' hgrow _ hv4'
    have HOW4 := hid (show w4.ownsRow w.heap.size 80 2 v4 (i + 1) (elC (L.take (i + 1))) by rw [HTK.out]; exact hown')
    have HK4 := hid (show KeepB (fun k => k = g) w w4 from ⟨hgrow.os.trans HK3.out.os, hgrow.tape.trans HK3.out.tape, hgrow.output.trans HK3.out.output, Nat.le_trans (by simp; omega) hgrow.size, fun k h1 h2 => by
      rw [hgrow.block k (by simp; omega) (fun e => by have := (HOW.out.lt k e.symm).1; omega), Below.heap_alloc _ _ _ (by omega)]
      exact HK3.out.block k h1 h2⟩)
    have HM4 := hid ((hgrow.block b6 (lt_of_heap HM3A.out) (fun e => HBN.out e.symm)).trans HM3A.out)
    have HP4 := hid (show PileE w4 B g o (cur1.setIfInBounds o v3) T v3 (L.drop (i + 1)) from ⟨HP3A.out.ge, (hgrow.block g HP3A.out.lt (fun e => by have := (HOW.out.lt g e.symm).1; omega)).trans HP3A.out.blk, HP3A.out.at_, HP3A.out.row.kept hgrow (by
      rcases h5 : v3.ownBlock with _ | k
      · exact .inl rfl
      · refine .inr (fun e => ?_)
        have h6 := (HOW.out.lt k e.symm).1
        rw [HO3.out] at h5
        have := (HP.out.row.lt k h5).2
        omega), HP3A.out.ne⟩)
    have HL4 := hid ((Below.refl w4.heap.size w4).alloc (Nat.le_refl _) (.cells #[.int .i64 (x1 : Int), .string x2] 80))
    have C5 := hid (cPeTopA B g o _ T v3 (L.drop (i + 1)) _ (HP4.out.below HL4.out) (by rw [hlen]; omega))
    have hl0 : decide (0 < (L.drop (i + 1)).length) = decide (i + 1 < n) := by rw [hlen]; by_cases h : i + 1 < n <;> simp <;> omega
    rw [hl0] at C5
    obtain ⟨a4, c4, hv4⟩ := own_len hown'
    have HVL := hid (fun k (e : v4.ownBlock = some k) => (HOW4.out.lt k e).2)
    generalize htt : topE (L.drop (i + 1)) = tt at C5
    generalize hdd : decide (i + 1 < n) = dd at C5
    have HTT := hid htt
    have HDD := hid hdd
    have MB := hid (heap_alloc_new w4 (.cells #[.int .i64 (x1 : Int), .string x2] 80))
    obtain ⟨⟨n0, n1⟩, _⟩ := box2e HM4.out
    have hsz4 := HK4.out.size
    subst hv4
    clear hown' hgrow htt hdd hl0 m0 m1 hv4'
    go_wp2_with fail
    refine C5.out.mono ?_
    rintro e w5 ⟨rfl, hb5⟩
    have HB5 := hid (bb HL4.out hb5)
    have HM5 := hid (blk_below MB.out hb5)
    obtain ⟨⟨p0, p1⟩, f0, f1⟩ := box2e HM5.out
    have hw5 : w4.heap.size < w5.heap.size := by have := hb5.size; simp at this; omega
    clear hb5
    go_wp2_with fail
    have HST := hid (((Below.refl w4.heap.size w5).setCell (p := ⟨w4.heap.size, 0, none⟩) (Nat.le_refl _) (.int .i64 (tt.1 : Int))).setCell (p := ⟨w4.heap.size, 1, none⟩) (Nat.le_refl _) (.string tt.2))
    have HBS := hid (HB5.out.trans HST.out)
    have HMS := hid (box_set2 (u := .int .i64 (tt.1 : Int)) (v := .string tt.2) HM5.out)
    go_roundw
    case rel => exact ⟨i + 1, w4.heap.size, by omega, rfl, by rw [HDD.out]; exact rfl, ⟨HNO.out, ⟨_, v3, HP4.out.below HBS.out, HS1.out.set _, HO3.out⟩, ownsRow_below HOW4.out HBS.out, HK4.out.below_of HBS.out, by rw [HTT.out]; exact HMS.out, hsz4, fun e => by have := HVL.out _ e; omega⟩⟩
    case measure => simp [lenV]; omega

end Go.Proofs.Ytcjeodgfpnecgaa
