/- What lies on the pile while a tree is looked at (plain mathematics). Contracts of the pile of open elements. Contract of l8DrawAttrs of the specification (the draw of attrs). -/
import Derived.Test.YtkcmagfbacmllaaM11
import Derived.Test.YtkcmagfbacmllaaM6
import Derived.Maps.AppendAt
import Derived.Deep.Upon
import Derived.Deep.RegionHeld
namespace Go.Proofs.Ytkcmagfbacmllaa
set_option linter.unusedVariables false

def elB (ts : List Tk) (j : Nat) : Bool := match ts[j]? with | some t => !decide (t.name.size = 0) | none => false

theorem elB_iff {ts : List Tk} {j : Nat} : elB ts j = true ↔ elN ts j := by
  unfold elB elN
  by_cases h : j < ts.length
  · rw [List.getElem?_eq_getElem h]
    simp [h]
  · rw [List.getElem?_eq_none (by omega)]
    simp [h]

theorem elB_at {ts : List Tk} {j : Nat} (h : j < ts.length) : elB ts j = !decide (ts[j].name.size = 0) := by
  unfold elB
  rw [List.getElem?_eq_getElem h]

/-- What lies on the pile ahead of the i-th node, the top first. -/
def pileF (ts : List Tk) : Nat → List Nat
  | 0 => []
  | i + 1 => (if elB ts i = true then [i] else []) ++ (pileF ts i).dropWhile (notP (parI ts i))

theorem dw_filter {α : Type} {el p : α → Bool} (h : ∀ x, p x = false → el x = true) : ∀ l : List α, (l.filter el).dropWhile p = (l.dropWhile p).filter el
  | [] => rfl
  | x :: l => by
    cases e : el x
    · have hp : p x = true := by
        cases q : p x
        · rw [h x q] at e; cases e
        · rfl
      rw [List.filter_cons_of_neg (by rw [e]; decide), List.dropWhile_cons_of_pos hp]
      exact dw_filter h l
    · rw [List.filter_cons_of_pos e]
      cases q : p x
      · rw [List.dropWhile_cons_of_neg (by rw [q]; decide), List.dropWhile_cons_of_neg (by rw [q]; decide), List.filter_cons_of_pos e]
      · rw [List.dropWhile_cons_of_pos q, List.dropWhile_cons_of_pos q]
        exact dw_filter h l

theorem chain_tail (ts : List Tk) (i : Nat) : (chainF ts (i + 1)).tail = (chainF ts i).dropWhile (notP (parI ts i)) := rfl

theorem chain_tail_el {ts : List Tk} : ∀ i, (∀ j, j < i + 1 → UpOk ts j) → ∀ x ∈ (chainF ts (i + 1)).tail, elB ts x = true
  | 0, _ => fun x hx => by
    rw [chain_tail] at hx
    exact absurd hx (by simp [chainF])
  | i + 1, h => fun x hx => by
    have ih := chain_tail_el i (fun j hj => h j (by omega))
    rw [chain_tail] at hx
    have e : chainF ts (i + 1) = i :: (chainF ts (i + 1)).tail := rfl
    rw [e] at hx
    cases q : notP (parI ts (i + 1)) i
    · rw [List.dropWhile_cons_of_neg (by rw [q]; decide)] at hx
      rcases List.mem_cons.1 hx with rfl | hx
      · rcases h (x + 1) (by omega) with h0 | ⟨p, _, hp, he⟩
        · omega
        · unfold notP at q
          simp only [Bool.not_eq_false', decide_eq_true_eq] at q
          have : x = p := by omega
          subst this
          exact elB_iff.2 he
      · exact ih x hx
    · rw [List.dropWhile_cons_of_pos q] at hx
      exact ih x ((List.dropWhile_sublist _).mem hx)

theorem pile_is {ts : List Tk} : ∀ i, (∀ j, j < i → UpOk ts j) → pileF ts i = (chainF ts i).filter (elB ts)
  | 0, _ => rfl
  | i + 1, h => by
    have ih := pile_is i (fun j hj => h j (by omega))
    have e : chainF ts (i + 1) = i :: (chainF ts i).dropWhile (notP (parI ts i)) := rfl
    have key : ((chainF ts i).filter (elB ts)).dropWhile (notP (parI ts i)) = ((chainF ts i).dropWhile (notP (parI ts i))).filter (elB ts) := by
      rcases h i (by omega) with h0 | ⟨p, _, hp, he⟩
      · subst h0
        rfl
      · refine dw_filter (fun x hx => ?_) _
        unfold notP at hx
        simp only [Bool.not_eq_false', decide_eq_true_eq] at hx
        have : x = p := by omega
        subst this
        exact elB_iff.2 he
    rw [pileF, ih, key, e]
    cases q : elB ts i
    · rw [List.filter_cons_of_neg (by rw [q]; decide)]
      simp
    · rw [List.filter_cons_of_pos q]
      simp

/-- Where the node may stand there: what is left is what is around it. -/
theorem pile_ok {ts : List Tk} {i : Nat} (h : ∀ j, j < i → UpOk ts j) (hu : UpOk ts i) : (chainF ts (i + 1)).length = ((pileF ts i).dropWhile (notP (parI ts i))).length + 1 := by
  have h1 := pile_is (i + 1) (fun j hj => by rcases Nat.lt_or_eq_of_le (Nat.le_of_lt_succ hj) with h' | rfl; exact h j h'; exact hu)
  have h2 := chain_tail_el i (fun j hj => by rcases Nat.lt_or_eq_of_le (Nat.le_of_lt_succ hj) with h' | rfl; exact h j h'; exact hu)
  have e : chainF ts (i + 1) = i :: (chainF ts (i + 1)).tail := rfl
  rw [pileF, e] at h1
  rw [e, List.length_cons]
  congr 1
  have h3 : (chainF ts (i + 1)).tail.filter (elB ts) = (chainF ts (i + 1)).tail := List.filter_eq_self.2 h2
  cases q : elB ts i
  · rw [q, List.filter_cons_of_neg (by rw [q]; decide), h3] at h1
    have h1 : (pileF ts i).dropWhile (notP (parI ts i)) = (chainF ts (i + 1)).tail := h1
    rw [h1]
  · rw [q, List.filter_cons_of_pos q, h3] at h1
    have h1 : i :: (pileF ts i).dropWhile (notP (parI ts i)) = i :: (chainF ts (i + 1)).tail := h1
    injection h1 with _ h1
    rw [h1]

theorem dw_nil {α : Type} {p : α → Bool} : ∀ {l : List α}, l.dropWhile p = [] → ∀ x ∈ l, p x = true
  | [], _, x, hx => absurd hx List.not_mem_nil
  | y :: l, h, x, hx => by
    cases q : p y
    · rw [List.dropWhile_cons_of_neg (by rw [q]; decide)] at h
      cases h
    · rw [List.dropWhile_cons_of_pos q] at h
      rcases List.mem_cons.1 hx with rfl | hx
      · exact q
      · exact dw_nil h x hx

/-- It may stand there just if something is left. -/
theorem pile_up {ts : List Tk} {i : Nat} (h : ∀ j, j < i → UpOk ts j) (hi : 0 < i) : UpOk ts i ↔ 0 < ((pileF ts i).dropWhile (notP (parI ts i))).length := by
  rw [pile_is i h]
  constructor
  · rintro (h0 | ⟨p, hp, e, he⟩)
    · omega
    · rw [List.length_pos_iff]
      intro e0
      have := dw_nil e0 p (List.mem_filter.2 ⟨hp, elB_iff.2 he⟩)
      unfold notP at this
      simp only [Bool.not_eq_true', decide_eq_false_iff_not] at this
      exact this e
  · intro hl
    rw [List.length_pos_iff] at hl
    have h1 := List.head_dropWhile_not (notP (parI ts i)) hl
    have h2 := (List.dropWhile_sublist (notP (parI ts i))).mem (List.head_mem hl)
    obtain ⟨h3, h4⟩ := List.mem_filter.1 h2
    refine .inr ⟨_, h3, ?_, elB_iff.1 h4⟩
    generalize (List.dropWhile (notP (parI ts i)) (List.filter (elB ts) (chainF ts i))).head hl = z at h1 ⊢
    unfold notP at h1
    simpa using h1

theorem dw_len {α : Type} (p : α → Bool) (l : List α) : (l.dropWhile p).length ≤ l.length := (List.dropWhile_sublist p).length_le

theorem pile_len (ts : List Tk) : ∀ i, (pileF ts i).length ≤ i
  | 0 => Nat.le_refl _
  | i + 1 => by
    have := pile_len ts i
    have h2 := dw_len (notP (parI ts i)) (pileF ts i)
    rw [pileF, List.length_append]
    split <;> simp <;> omega

/-- The token that a node begins with. -/
def tokOfN (t : Tk) : Tk := if t.name.size = 0 then ⟨3, ⟨#[]⟩, t.attrs, t.text⟩ else ⟨1, t.name, t.attrs, t.text⟩

theorem tokOfN_B (t : Tk) : tokB (tokOfN t) = nodeB t := by
  unfold tokOfN nodeB
  split
  · unfold tokB
    rw [if_neg (show ¬ (3 : Int) = 1 by decide), if_neg (show ¬ (3 : Int) = 2 by decide), if_pos rfl, show decide ((⟨#[]⟩ : ByteArray).size = 0) = true from rfl, Bool.true_and]
  · unfold tokB
    rw [if_pos rfl]

theorem tokOfN_attrs (t : Tk) : (tokOfN t).attrs = t.attrs := by unfold tokOfN; split <;> rfl

theorem tokOfN_sz {n : Nat} {t : Tk} (h : TkSz n t) : TkSz n (tokOfN t) := by
  obtain ⟨h1, h2, h3, h4⟩ := h
  unfold tokOfN
  split
  · exact ⟨Nat.zero_le _, h2, h3, h4⟩
  · exact ⟨h1, h2, h3, h4⟩

noncomputable def twinB (ts : List Tk) (i : Nat) : Bool := open Classical in decide (TwinAt ts i)

theorem twinB_t {ts : List Tk} {i : Nat} (h : TwinAt ts i) : twinB ts i = true := by unfold twinB; simp [h]

theorem twinB_f {ts : List Tk} {i : Nat} (h : ¬ TwinAt ts i) : twinB ts i = false := by unfold twinB; simp [h]

end Go.Proofs.Ytkcmagfbacmllaa

namespace Go.Proofs.Ytkcmagfbacmllaa
open Go.RowKit
set_option linter.unusedVariables false
set_option linter.unusedSimpArgs false

/-- append onto a row of the call's own, as one step of a region that draws its order. -/
theorem step_app_at {P : Program} {ops : Array Oper} {o : Oper} {a : Act} {w : World} {K : Act → World → Prop} {Q : Exit → Act → World → Prop} {E : Prop}
    (hg : o.guard = none) (s x : Operand) (t : TypeId) (hop : o.op = Op.call { callee := Callee.builtin Builtin.append, args := #[s, x], argTypes := #[t, t] })
    (base : Nat) (e : TypeId) (i : TypeInfo) (z : Value) (size bytes : Nat) (h1 : P.underlying t = some (.slice e)) (h2 : P.info? e = some i) (h3 : i.zero = some z) (h4 : i.size = size) (h5 : i.bytes = bytes) (h6 : z.cells.size = size) (h7 : 0 < size)
    (v : Value) (n : Nat) (xs : List Value) (hs : a.eval s = v) (hown : w.ownsRow base e size v n xs)
    (ad : Addr) (m c : Nat) (news : List Value) (hx : a.eval x = .slice (some ad) m c) (hn : news.length = m * size) (hc : ∀ j u, news[j]? = some u → w.cell? (ad.add j) = some u) (h1c : ∀ u ∈ news, u.oneCell' = true)
    (b1 : n + m ≤ maxLen) (b2 : (n + m) * bytes ≤ 140737488355328) (b3 : base ≤ w.heap.size)
    (hK : ∀ v' w', w'.ownsRow base e size v' (n + m) (xs ++ news) → w.grownBy w' v.ownBlock → (v'.ownBlock = v.ownBlock ∨ v'.ownBlock = some w.heap.size) → K (a.put o.dst v') w') :
    if Region.wanted o (yielded ops a.tmps) = true then Oper.wp P o a w K Q else E := by
  have hw : Region.wanted o (yielded ops a.tmps) = true := by simp [Region.wanted, hg]
  rw [if_pos hw]
  obtain ⟨v', w', hrun, r1, r2, _, r3⟩ := run_append_own_at (P := P) w base t o.type e i z size bytes h1 h2 h3 h4 h5 h6 h7 v n xs hown ad m c news hn hc h1c b1 b2 b3
  unfold Oper.wp
  simp [execOp, hop, resolve, invoke, builtin, hs, hx, hrun, Result.andThen]
  exact hK v' w' r1 r2 r3

/-- Open elements as cells. -/
def elC (l : List (Nat × ByteArray)) : List Value := l.flatMap fun x => [.int .i64 (x.1 : Int), .string x.2]

theorem elC_len (l : List (Nat × ByteArray)) : (elC l).length = l.length * 2 := by
  induction l with
  | nil => rfl
  | cons x l ih => show (elC l).length + 2 = _; rw [ih, List.length_cons]; omega

theorem elC_app (l m : List (Nat × ByteArray)) : elC (l ++ m) = elC l ++ elC m := by simp [elC]

theorem elC_one (l : List (Nat × ByteArray)) : ∀ u ∈ elC l, u.oneCell' = true := by
  intro u hu
  unfold elC at hu
  obtain ⟨x, _, hx⟩ := List.mem_flatMap.1 hu
  simp at hx
  rcases hx with rfl | rfl <;> rfl

theorem infoEl : (Try.prog.info? 94).map (fun i => (i.zero, i.size, i.bytes)) = some (some (.agg #[.int .i64 0, .string ⟨#[]⟩]), 2, 24) := by kernel_rfl

theorem two_cells (w : World) (x y : Value) (T : TypeId) : ∀ j u, [x, y][j]? = some u → (w.alloc (.cells #[x, y] T)).cell? ((⟨w.heap.size, 0, none⟩ : Addr).add j) = some u := by
  intro j u hj
  match j, hj with
  | 0, hj => simp at hj; subst hj; simp [Addr.add]
  | 1, hj => simp at hj; subst hj; simp [Addr.add]

/-- Open elements, the top first. -/
abbrev PileE (w : World) (B g o : Nat) (cur : Array Value) (T : TypeId) (v : Value) (L : List (Nat × ByteArray)) : Prop := PileAt 94 2 w B g o cur T v L.length (elC L.reverse)

theorem rev_lastE (x : Nat × ByteArray) (L : List (Nat × ByteArray)) : (elC (x :: L).reverse)[L.length * 2]? = some (.int .i64 (x.1 : Int)) ∧ (elC (x :: L).reverse)[L.length * 2 + 1]? = some (.string x.2) := by
  have hl : (elC L.reverse).length = L.length * 2 := by rw [elC_len, List.length_reverse]
  rw [List.reverse_cons, elC_app, List.getElem?_append_right (by omega), List.getElem?_append_right (by omega), hl]
  simp [elC]

theorem rev_takeE (x : Nat × ByteArray) (L : List (Nat × ByteArray)) : (elC (x :: L).reverse).take (L.length * 2) = elC L.reverse := by
  rw [List.reverse_cons, elC_app, List.take_left' (by rw [elC_len, List.length_reverse])]

theorem PileAt.lessE {w : World} {B g o b c n : Nat} {cur : Array Value} {T : TypeId} {x : Nat × ByteArray} {L : List (Nat × ByteArray)} (h : PileE w B g o cur T (.slice (some ⟨b, 0, none⟩) (x :: L).length c) (x :: L)) (hn : L.length = n) :
    PileE (w.setCell ⟨g, o, none⟩ (.slice (some ⟨b, 0, none⟩) n c)) B g o (cur.setIfInBounds o (.slice (some ⟨b, 0, none⟩) n c)) T (.slice (some ⟨b, 0, none⟩) n c) L := by
  subst hn
  have h1 := own_less (m := L.length) h.row (by rw [List.length_cons]; omega)
  rw [rev_takeE] at h1
  exact h.set h1 h.own_ne

set_option maxHeartbeats 2000000 in
theorem cPeTop0 (B g o : Nat) (cur : Array Value) (T : TypeId) (v : Value) (w : World) (h : PileE w B g o cur T v []) :
    Calls Try.prog 96 #[.pointer (some ⟨g, o, none⟩)] w fun e w' => e = .returned (.tuple #[.agg #[.int .i64 0, .string ⟨#[]⟩], .bool false]) ∧ Below w.heap.size w w' := by
  have c0 := h.cell
  have hlt := h.lt
  obtain ⟨a, c, rfl⟩ := own_len h.row
  clear h
  go_enter Try.func96, Try.ntmps96
  go_wp2_with fail
  refine bodyPost_ret (v := .tuple #[.agg #[.int .i64 0, .string ⟨#[]⟩], .bool false]) (by simp [results, Try.results96, go_sem]) rfl ⟨rfl, ?_⟩
  exact ((Below.refl _ _).alloc (Nat.le_refl _) _).alloc (by simp) _

set_option maxHeartbeats 2000000 in
theorem cPeTop (B g o : Nat) (cur : Array Value) (T : TypeId) (v : Value) (x : Nat × ByteArray) (L : List (Nat × ByteArray)) (w : World) (h : PileE w B g o cur T v (x :: L)) (hn : L.length ≤ 1048576) :
    Calls Try.prog 96 #[.pointer (some ⟨g, o, none⟩)] w fun e w' => e = .returned (.tuple #[.agg #[.int .i64 (x.1 : Int), .string x.2], .bool true]) ∧ Below w.heap.size w w' := by
  have c0 := h.cell
  have hlt := h.lt
  obtain ⟨b, c, rfl, hb, _, hc, hcs⟩ := own_pos h.row (Nat.succ_pos _)
  have c1 := hcs (L.length * 2) (by rw [List.length_cons]; omega)
  have c2 := hcs (L.length * 2 + 1) (by rw [List.length_cons]; omega)
  rw [(rev_lastE x L).1] at c1
  rw [(rev_lastE x L).2] at c2
  clear h hcs
  rw [List.length_cons] at c0 hc
  obtain ⟨n, hnn⟩ : ∃ n, L.length = n := ⟨_, rfl⟩
  rw [hnn] at c0 c1 c2 hn hc
  clear hnn
  obtain ⟨x1, x2⟩ := x
  simp only at c1 c2 ⊢
  have hq : ((n + 1 : Nat) : Int) = (n : Int) + 1 := by omega
  have hd : (((n : Int) + 1) == 0) = false := by simp; omega
  go_enter Try.func96, Try.ntmps96
  go_wp2_with fail
  go_region
  go_wp2_with fail
  refine bodyPost_ret (v := .tuple #[.agg #[.int .i64 (x1 : Int), .string x2], .bool true]) (by simp [results, Try.results96, go_sem]) rfl ⟨rfl, ?_⟩
  exact ((Below.refl _ _).alloc (Nat.le_refl _) _).drew

theorem box2e {w : World} {g : Nat} {x y : Value} {T : TypeId} (h : w.heap[g]? = some (.cells #[x, y] T (0, 0))) : (w.cell? ⟨g, 0, none⟩ = some x ∧ w.cell? ⟨g, 1, none⟩ = some y) ∧ (w.frozen? ⟨g, 0, none⟩ = false ∧ w.frozen? ⟨g, 1, none⟩ = false) :=
  ⟨⟨by rw [Lib.cell_of_heap h]; rfl, by rw [Lib.cell_of_heap h]; rfl⟩, Lib.frozen_of_heap h 0, Lib.frozen_of_heap h 1⟩

theorem box_set2 {w1 : World} {b : Nat} {x y u v : Value} {T : TypeId} (h : w1.heap[b]? = some (.cells #[x, y] T (0, 0))) : ((w1.setCell ⟨b, 0, none⟩ u).setCell ⟨b, 1, none⟩ v).heap[b]? = some (.cells #[u, v] T (0, 0)) :=
  heap_setCell_same _ _ _ _ _ _ (heap_setCell_same w1 b 0 _ _ u h)

theorem elC_snoc (x : Nat × ByteArray) (L : List (Nat × ByteArray)) : elC (x :: L).reverse = elC L.reverse ++ [.int .i64 (x.1 : Int), .string x.2] := by
  rw [List.reverse_cons, elC_app]
  rfl

theorem KeepB.of_row {p : Nat → Prop} {w w' : World} {row : Option Nat} (h : w.grownBy w' row) (hp : ∀ k, row = some k → p k) : KeepB p w w' :=
  ⟨h.os, h.tape, h.output, h.size, fun i hi hr => h.block i hi (fun e => hr (hp i e.symm))⟩

theorem KeepB.base {p : Nat → Prop} {w a b : World} (h : KeepB p w a) (hb : Below w.heap.size a b) : KeepB p w b :=
  ⟨hb.os.trans h.os, hb.tape.trans h.tape, hb.output.trans h.output, Nat.le_trans h.size hb.size, fun k hk hp => (hb.block k hk).trans (h.block k hk hp)⟩

set_option maxHeartbeats 4000000 in
theorem cPeTake (B g o : Nat) (cur : Array Value) (T : TypeId) (v : Value) (x : Nat × ByteArray) (L : List (Nat × ByteArray)) (w : World) (h : PileE w B g o cur T v (x :: L)) (hn : L.length ≤ 1048576) :
    Calls Try.prog 97 #[.pointer (some ⟨g, o, none⟩)] w fun e w' => e = .returned (.tuple #[.agg #[.int .i64 (x.1 : Int), .string x.2], .bool true]) ∧ (∃ v', PileE w' B g o (cur.setIfInBounds o v') T v' L ∧ v'.ownBlock = v.ownBlock) ∧ KeepB (fun k => k = g) w w' := by
  have HB0 := hid ((Below.refl w.heap.size w).alloc (Nat.le_refl _) (.cells #[.int .i64 0, .string ⟨#[]⟩] 94))
  have M0 := hid (heap_alloc_new w (.cells #[.int .i64 0, .string ⟨#[]⟩] 94))
  have C := hid (cPeTop B g o cur T v x L _ (h.below HB0.out) hn)
  obtain ⟨b, c, rfl, hb, _, hc, hcs⟩ := own_pos h.row (Nat.succ_pos _)
  clear hcs
  have HP := hid h
  have hgw := h.lt
  clear h
  obtain ⟨n, hnn⟩ : ∃ n, L.length = n := ⟨_, rfl⟩
  have HN := hid hnn
  have hl : (x :: L).length = n + 1 := by rw [List.length_cons, hnn]
  have HL := hid hl
  rw [hl] at hc
  rw [hnn] at hn
  clear hnn hl
  obtain ⟨x1, x2⟩ := x
  simp only at C ⊢
  go_enter Try.func97, Try.ntmps97
  go_wp2_with fail
  refine C.out.mono ?_
  rintro e w1 ⟨rfl, hb1⟩
  have HB1 := hid (bb HB0.out hb1)
  have HP1 := hid ((HP.out.below HB0.out).below hb1)
  have M1 := hid (blk_below M0.out hb1)
  obtain ⟨⟨m0, m1⟩, f0, f1⟩ := box2e M1.out
  have c0 := HP1.out.cell
  have fz := frozen_of_row w1 g o cur T HP1.out.blk
  have hlt := HP1.out.lt
  have hw1 : w.heap.size < w1.heap.size := by have := hb1.size; simp at this; omega
  rw [HL.out] at c0
  have HS := hid (HP1.out.lessE HN.out)
  clear hb1 C HP M0 HB0
  have hq : ((n + 1 : Nat) : Int) = (n : Int) + 1 := by omega
  have hg1 : ¬ g = w1.heap.size := by omega
  have hg2 : ¬ g = w.heap.size := by omega
  have hg3 : ¬ w.heap.size = w1.heap.size := by omega
  have hg1' : ¬ w1.heap.size = g := by omega
  have hg2' : ¬ w.heap.size = g := by omega
  go_wp2_with fail
  go_region
  go_wp2_with fail
  have HP3 := hid ((((HS.out.keep (KeepB.of_set (p := fun k => k = w.heap.size) _ 0 (.int .i64 (x1 : Int)) rfl) hg2 (by simp [Value.ownBlock]; omega)).keep (KeepB.of_set (p := fun k => k = w.heap.size) _ 1 (.string x2) rfl) hg2 (by simp [Value.ownBlock]; omega)).below ((Below.refl _ _).alloc (Nat.le_refl _) (.cells #[.int .i64 (x1 : Int), .string x2] 94))).drew)
  have HK3 := hid (((KeepB.of_below (fun k => k = g) HB1.out).trans (KeepB.of_set (p := fun k => k = g) _ o (.slice (some ⟨b, 0, none⟩) n c) rfl)).base (((((Below.refl w.heap.size _).setCell (p := ⟨w.heap.size, 0, none⟩) (Nat.le_refl _) (.int .i64 (x1 : Int))).setCell (p := ⟨w.heap.size, 1, none⟩) (Nat.le_refl _) (.string x2)).alloc (by simp; omega) (.cells #[.int .i64 (x1 : Int), .string x2] 94)).drew))
  have hM3 := blk_alloc (box_set2 (u := .int .i64 (x1 : Int)) (v := .string x2) ((heap_setCell_other w1 ⟨g, o, none⟩ w.heap.size (.slice (some ⟨b, 0, none⟩) n c) hg2').trans M1.out)) (.cells #[.int .i64 (x1 : Int), .string x2] 94)
  obtain ⟨W, hW⟩ : ∃ W, ((((w1.setCell ⟨g, o, none⟩ (.slice (some ⟨b, 0, none⟩) n c)).setCell ⟨w.heap.size, 0, none⟩ (.int .i64 (x1 : Int))).setCell ⟨w.heap.size, 1, none⟩ (.string x2)).alloc (.cells #[.int .i64 (x1 : Int), .string x2] 94)).drew = W := ⟨_, rfl⟩
  have hM4 : W.heap[w.heap.size]? = some (.cells #[.int .i64 (x1 : Int), .string x2] 94 (0, 0)) := by rw [← hW]; exact hM3
  obtain ⟨⟨r0, r1⟩, _⟩ := box2e hM4
  rw [hW] at HP3 HK3 ⊢
  exact bodyPost_ret (v := .tuple #[.agg #[.int .i64 (x1 : Int), .string x2], .bool true]) (by simp [results, Try.results97, go_sem, r0, r1]) rfl ⟨rfl, ⟨_, HP3.out, rfl⟩, HK3.out⟩

set_option maxHeartbeats 4000000 in
theorem cPeTake0 (B g o : Nat) (cur : Array Value) (T : TypeId) (v : Value) (w : World) (h : PileE w B g o cur T v []) :
    Calls Try.prog 97 #[.pointer (some ⟨g, o, none⟩)] w fun e w' => e = .returned (.tuple #[.agg #[.int .i64 0, .string ⟨#[]⟩], .bool false]) ∧ Below w.heap.size w w' := by
  have HB0 := hid ((Below.refl w.heap.size w).alloc (Nat.le_refl _) (.cells #[.int .i64 0, .string ⟨#[]⟩] 94))
  have M0 := hid (heap_alloc_new w (.cells #[.int .i64 0, .string ⟨#[]⟩] 94))
  have C := hid (cPeTop0 B g o cur T v _ (h.below HB0.out))
  clear h
  go_enter Try.func97, Try.ntmps97
  go_wp2_with fail
  refine C.out.mono ?_
  rintro e w1 ⟨rfl, hb1⟩
  have HB1 := hid (bb HB0.out hb1)
  have M1 := hid (blk_below M0.out hb1)
  obtain ⟨⟨m0, m1⟩, f0, f1⟩ := box2e M1.out
  have hw1 : w.heap.size < w1.heap.size := by have := hb1.size; simp at this; omega
  have hg3 : ¬ w.heap.size = w1.heap.size := by omega
  clear hb1 C M0 HB0
  go_wp2_with fail
  have hM3 := blk_alloc (box_set2 (u := .int .i64 0) (v := .string ⟨#[]⟩) M1.out) (.cells #[.int .i64 0, .string ⟨#[]⟩] 94)
  have HK3 := hid (((HB1.out.setCell (p := ⟨w.heap.size, 0, none⟩) (Nat.le_refl _) (.int .i64 0)).setCell (p := ⟨w.heap.size, 1, none⟩) (Nat.le_refl _) (.string ⟨#[]⟩)).alloc (by simp; omega) (.cells #[.int .i64 0, .string ⟨#[]⟩] 94))
  generalize (((w1.setCell ⟨w.heap.size, 0, none⟩ (.int .i64 0)).setCell ⟨w.heap.size, 1, none⟩ (.string ⟨#[]⟩)).alloc (.cells #[.int .i64 0, .string ⟨#[]⟩] 94)) = W at *
  obtain ⟨⟨r0, r1⟩, _⟩ := box2e hM3
  exact bodyPost_ret (v := .tuple #[.agg #[.int .i64 0, .string ⟨#[]⟩], .bool false]) (by simp [results, Try.results97, go_sem, r0, r1]) rfl ⟨rfl, HK3.out⟩

set_option maxHeartbeats 4000000 in
theorem cPeLay (B g o : Nat) (cur : Array Value) (T : TypeId) (v : Value) (x : Nat × ByteArray) (L : List (Nat × ByteArray)) (w : World) (h : PileE w B g o cur T v L) (hn : L.length ≤ 1048576) :
    Calls Try.prog 74 #[.pointer (some ⟨g, o, none⟩), .agg #[.int .i64 (x.1 : Int), .string x.2]] w fun e w' => e = .returned (.tuple #[]) ∧ (∃ v', PileE w' B g o (cur.setIfInBounds o v') T v' (x :: L) ∧ (v'.ownBlock = v.ownBlock ∨ ∃ k, v'.ownBlock = some k ∧ w.heap.size ≤ k)) ∧ KeepB (fun k => k = g ∨ v.ownBlock = some k) w w' := by
  obtain ⟨i0, hi, hz0, hz1, hz2⟩ := info_parts infoEl
  obtain ⟨x1, x2⟩ := x
  simp only
  have c0 := h.cell
  have hlt := h.lt
  have fz := frozen_of_row w g o cur T h.blk
  have hB : B ≤ w.heap.size := Nat.le_trans h.ge (Nat.le_of_lt hlt)
  have HB0 := hid (((Below.refl w.heap.size w).alloc (Nat.le_refl _) (.cells #[.int .i64 (x1 : Int), .string x2] 94)).alloc (by simp) (.cells #[.int .i64 (x1 : Int), .string x2] 94))
  have HP := hid (h.below HB0.out)
  have HNE := hid (show ∀ j u, [Value.int .i64 (x1 : Int), .string x2][j]? = some u → ((w.alloc (.cells #[.int .i64 (x1 : Int), .string x2] 94)).alloc (.cells #[.int .i64 (x1 : Int), .string x2] 94)).cell? ((⟨w.heap.size + 1, 0, none⟩ : Addr).add j) = some u by
    have := two_cells (w.alloc (.cells #[.int .i64 (x1 : Int), .string x2] 94)) (.int .i64 (x1 : Int)) (.string x2) 94
    rw [show (w.alloc (.cells #[.int .i64 (x1 : Int), .string x2] 94)).heap.size = w.heap.size + 1 by simp] at this
    exact this)
  have HON := hid (show ∀ u ∈ [Value.int .i64 (x1 : Int), .string x2], u.oneCell' = true by
    intro u hu
    simp at hu
    rcases hu with rfl | rfl <;> rfl)
  have HVB := hid (fun k (e : v.ownBlock = some k) => h.row.lt k e)
  have HHT := hid h.own_ne
  clear h
  go_enter Try.func74, Try.ntmps74
  go_wp2_with fail
  go_region_law (refine step_app_at rfl (.tmp 8) (.tmp 10) 88 rfl B 94 i0 (.agg #[.int .i64 0, .string ⟨#[]⟩]) 2 24 Try.underlying88 hi hz0 hz1 hz2 rfl (by decide) v L.length (elC L.reverse) (by simp [Act.eval, Act.put]) HP.out.row ⟨w.heap.size + 1, 0, none⟩ 1 1 [.int .i64 (x1 : Int), .string x2] (by simp [Act.eval, Act.put]) rfl HNE.out HON.out (by unfold maxLen; omega) (by omega) (by simp; omega) ?_; intro v' w2 hown' hgrow hv'; have hblk := hid ((hgrow.block g (by simp; omega) (fun e => HP.out.own_ne e.symm)).trans HP.out.blk); obtain ⟨a', c', hvv⟩ := own_len hown'; subst hvv; have f2 := frozen_of_row w2 g o cur T hblk.out; have c2 := show w2.cell? ⟨g, o, none⟩ = some v by (rw [Lib.cell_of_heap hblk.out]; exact HP.out.at_))
  all_goals
    have hne : (Value.slice a' (L.length + 1) c').ownBlock ≠ some g := by
      rcases hv' with e | e
      · rw [e]; exact HHT.out
      · rw [e]; simp; omega
    have hp := PileAt.mk_set (w := w2) HP.out.ge hblk.out HP.out.at_ HP.out.ne hown' hne
    have hk := ((KeepB.of_below (fun k => k = g ∨ v.ownBlock = some k) HB0.out.drew).trans (KeepB.of_row hgrow (fun k e => .inr e))).trans (KeepB.of_set (p := fun k => k = g ∨ v.ownBlock = some k) w2 o (.slice a' (L.length + 1) c') (.inl rfl))
    have hv2 : (Value.slice a' (L.length + 1) c').ownBlock = v.ownBlock ∨ ∃ k, (Value.slice a' (L.length + 1) c').ownBlock = some k ∧ w.heap.size ≤ k := by
      rcases hv' with e | e
      · exact .inl e
      · exact .inr ⟨_, e, by simp; omega⟩
    have e9 : elC L.reverse ++ [.int .i64 (x1 : Int), .string x2] = elC ((x1, x2) :: L).reverse := (elC_snoc (x1, x2) L).symm
    rw [e9] at hp
    go_end0
    exact ⟨rfl, ⟨_, hp, hv2⟩, hk⟩

end Go.Proofs.Ytkcmagfbacmllaa

namespace Go.Proofs.Ytkcmagfbacmllaa
open Go.RowKit
set_option linter.unusedVariables false
set_option linter.unusedSimpArgs false

theorem tab3_at (w : World) (B x : Nat) (hx : x < 3) (h : w.heap[B]? = some (.cells #[.string ⟨#[117]⟩, .string ⟨#[119]⟩, .string ⟨#[122]⟩] 9 (0, 0))) : ∃ t : ByteArray, w.cell? ⟨B, x, none⟩ = some (.string t) ∧ t.size ≤ 1 := by
  rw [Lib.cell_of_heap h]
  rcases (show x = 0 ∨ x = 1 ∨ x = 2 from by omega) with rfl | rfl | rfl
  all_goals exact ⟨_, rfl, by decide⟩

theorem four_cells (w : World) (x y z t : Value) (T : TypeId) : ∀ j u, [x, y, z, t][j]? = some u → (w.alloc (.cells #[x, y, z, t] T)).cell? ((⟨w.heap.size, 0, none⟩ : Addr).add j) = some u := by
  intro j u hj
  match j, hj with
  | 0, hj => simp at hj; subst hj; simp [Addr.add]
  | 1, hj => simp at hj; subst hj; simp [Addr.add]
  | 2, hj => simp at hj; subst hj; simp [Addr.add]
  | 3, hj => simp at hj; subst hj; simp [Addr.add]

theorem box_set1 {w1 : World} {b : Nat} {x y v : Value} {T : TypeId} (h : w1.heap[b]? = some (.cells #[x, y] T (0, 0))) : (w1.setCell ⟨b, 1, none⟩ v).heap[b]? = some (.cells #[x, v] T (0, 0)) :=
  heap_setCell_same w1 b 1 _ _ v h

set_option maxRecDepth 8000 in
set_option maxHeartbeats 8000000 in
theorem cDrawAttrs (r : Bool) (w0 : World) (a : Option Addr) (len cap b : Nat) (w : World) (hlen : len ≤ 4096) (hcr : CodeRow w0 a len) (hC : Cur w0 a len cap b w) :
    Calls Try.prog 128 #[.pointer (some ⟨b, 0, none⟩), .bool r] w fun e w' => ∃ a' c' l, e = .returned (.slice a' (l : List At).length c') ∧ l.length ≤ 4 ∧ DSt w0 a len cap b w w' (.slice a' l.length c') l := by
  have HR := hid hcr
  have HC := hid hC
  clear hcr hC
  have hbl : b < w.heap.size := by obtain ⟨i, h, _, _, hh⟩ := HC.out.2.2; exact lt_of_heap hh
  have HDZ := hid (show DSt w0 a len cap b w (w.alloc (.cells #[] 115)) (.slice (some ⟨w.heap.size, 0, none⟩) 0 0) [] from ⟨World.ownsRow_made w #[] 0 (Nat.le_refl _) (Nat.zero_le _) rfl, fun x hx => absurd hx List.not_mem_nil, HC.out.alloc _, World.grownBy_alloc w _ _, hbl, HC.out.2.1.size⟩)
  clear hbl
  go_enter Try.func128, Try.ntmps128
  go_upto_region 2 with fail
  go_cut [16] from 11 to 72 (fun x wv => ∃ B : Bool, x = .bool B ∧ Hid (DSt w0 a len cap b w wv (.slice (some ⟨w.heap.size, 0, none⟩) 0 0) []))
  case first =>
    cases r
    · go_wp2_with fail
      go_meet
      exact ⟨false, rfl, HDZ.out⟩
    · go_wp2_with fail
      refine (cOnce 6 w0 a len cap b _ hlen HR.out HDZ.out.cur (by omega) (by omega)).mono ?_
      rintro e w2 ⟨x, rfl, hC2, hG2⟩
      have HD2 := hid (HDZ.out.draw hC2 hG2)
      clear hC2 hG2
      cases x
      · go_wp2_with fail
        go_meet
        exact ⟨true, rfl, HD2.out⟩
      · go_wp2_with fail
        go_meet
        exact ⟨false, rfl, HD2.out⟩
  obtain ⟨BR, rfl, HDY⟩ := hcut
  clear HDZ
  go_upto_if 16 with fail
  go_cut [5] from 17 to 72 (fun x wv => ∃ l : List At, l.length ≤ 2 ∧ Hid (DSt w0 a len cap b w wv x l))
  case first =>
    cases BR
    · go_wp2_with fail
      go_meet
      exact ⟨[], by simp, HDY.out⟩
    · obtain ⟨i0, hi, hz0, hz1, hz2⟩ := info_parts infoAtW
      go_wp2_with fail
      refine (cText ⟨#[49, 47]⟩ 2 w0 a len cap b _ (by omega) (by omega) (by decide) (by decide) hlen HR.out HDY.out.cur).mono ?_
      rintro e w3 ⟨t5, rfl, ht5, hC3, hG3⟩
      have HD3 := hid (HDY.out.draw hC3 hG3)
      obtain ⟨S5, hS5⟩ : ∃ S, (⟨#[117]⟩ : ByteArray) ++ t5 = S := ⟨_, rfl⟩
      have hz5 : S5.size = 1 + t5.size := by rw [← hS5, ByteArray.size_append]; rfl
      have hov : ¬ 9223372036854775807 < (⟨#[117]⟩ : ByteArray).size + t5.size := by rw [show (⟨#[117]⟩ : ByteArray).size = 1 from rfl]; omega
      have hz6 : S5.size ≤ 5 := by omega
      have HOA := hid (HD3.out.own.alloc (.cells #[.string ⟨#[110, 115, 58, 112]⟩, .string S5, .string ⟨#[110, 115, 58, 113]⟩, .string ⟨#[119]⟩] 115))
      have HDA := hid (HD3.out.alloc (.cells #[.string ⟨#[110, 115, 58, 112]⟩, .string S5, .string ⟨#[110, 115, 58, 113]⟩, .string ⟨#[119]⟩] 115))
      have HNE := hid (four_cells w3 (.string ⟨#[110, 115, 58, 112]⟩) (.string S5) (.string ⟨#[110, 115, 58, 113]⟩) (.string ⟨#[119]⟩) 115)
      have HON := hid (show ∀ u ∈ [Value.string ⟨#[110, 115, 58, 112]⟩, .string S5, .string ⟨#[110, 115, 58, 113]⟩, .string ⟨#[119]⟩], u.oneCell' = true by
        intro u hu
        simp at hu
        rcases hu with rfl | rfl | rfl | rfl <;> rfl)
      have hwb := HD3.out.gr.size
      clear hC3 hG3 hz5
      go_wp2_with (at_builtin; refine wpList_append_own _ rfl _ _ 32 rfl w.heap.size 115 i0 _ 2 32 Try.underlying32 hi hz0 hz1 hz2 rfl (by decide) _ _ _ rfl HOA.out ⟨w3.heap.size, 0, none⟩ 2 2 [.string ⟨#[110, 115, 58, 112]⟩, .string S5, .string ⟨#[110, 115, 58, 113]⟩, .string ⟨#[119]⟩] rfl rfl ?c1 ?c2 ?c3 ?c4 ?c5 ?_)
      case c1 => exact HNE.out
      case c2 => exact HON.out
      case c3 => unfold maxLen; simp
      case c4 => simp
      case c5 => simp; omega
      intro v6 w6 hown6 hgrow6 _
      have HD6 := hid (HDA.out.join (m := [⟨⟨#[110, 115, 58, 112]⟩, S5⟩, ⟨⟨#[110, 115, 58, 113]⟩, ⟨#[119]⟩⟩]) (fun x hx => by
        simp at hx
        rcases hx with rfl | rfl
        · exact ⟨by show (⟨#[110, 115, 58, 112]⟩ : ByteArray).size ≤ 20; decide, by show S5.size ≤ 20; omega⟩
        · exact ⟨by decide, by decide⟩) hown6 hgrow6)
      clear hown6 hgrow6
      go_wp2_with fail
      go_meet
      exact ⟨[⟨⟨#[110, 115, 58, 112]⟩, S5⟩, ⟨⟨#[110, 115, 58, 113]⟩, ⟨#[119]⟩⟩], by simp, HD6.out⟩
  obtain ⟨lz, hlz, HDX⟩ := hcut
  go_wp2_with fail
  refine (cBelow 3 w0 a len cap b _ hlen HR.out HDX.out.cur (by omega) (by omega)).mono ?_
  rintro e w2 ⟨y, rfl, hy, hC2, hG2⟩
  have HD0 := hid (HDX.out.draw hC2 hG2)
  clear hC2 hG2 HDX HDY
  go_wp2_with fail
  go_loopw [5, 6] (fun v x wr => ∃ (k : Nat) (l : List At), x = .int .i64 (k : Int) ∧ k ≤ 2 ∧ l.length + k ≤ 4 ∧ Hid (DSt w0 a len cap b w wr v l)) (fun _ x _ => (intOf x).toNat)
  case atStart => exact ⟨y, lz, rfl, by omega, by omega, HD0.out⟩
  case round =>
    clear HD0
    obtain ⟨k, l, rfl, hk, hlk, HD⟩ := hrel
    by_cases h0 : k = 0
    · subst h0
      obtain ⟨a5, c5, hv5, _⟩ := HD.out.row
      subst hv5
      go_wp2_with fail
      go_ret
      exact ⟨a5, c5, l, rfl, by omega, HD.out⟩
    · have hkp : (0 : Int) < (k : Int) := by omega
      obtain ⟨v, hv⟩ : ∃ v, v = v := ⟨u5, rfl⟩
      clear hv v
      generalize u5 = v at *
      go_upto_region 7 with fail
      go_cut [7] from 27 to 72 (fun x wv => ∃ (bx : Nat) (tA tC : ByteArray), x = .pointer (some ⟨bx, 0, none⟩) ∧ Hid (wv.heap[bx]? = some (.cells #[.string tA, .string tC] 115 (0, 0)) ∧ (w.heap.size ≤ bx ∧ ¬ v.ownBlock = some bx) ∧ tA.size ≤ 7 ∧ tC.size ≤ 4 ∧ DSt w0 a len cap b w wv v l))
      case first =>
        refine wp_region_held_drew (S := fun _ => True) (by kernel_rfl) trivial (fun _ => ?_)
        replace HD := hid (show DSt w0 a len cap b w wr.drew v l from HD.out.drewN 1)
        generalize wr.drew = W at *
        refine wpAnyH_take (i := 1) (v := ?_) rfl (by kernel_rfl) (by kernel_rfl) (by kernel_rfl) (fun _ _ _ h => h) (Or.inl ⟨by rfl, ?_⟩) trivial ?_
        rotate_left
        · intro w hSw
          go_simp
          try (with_reducible rfl)
        try simp only [Act.put, List.setIfInBounds_toArray, List.set_cons_zero, List.set_cons_succ]
        refine wpAnyH_take (i := 5) (v := ?_) rfl (by kernel_rfl) (by kernel_rfl) (by kernel_rfl) (fun _ _ _ h => h) (Or.inl ⟨by rfl, ?_⟩) trivial ?_
        rotate_left
        · intro w hSw
          go_simp
          try (with_reducible rfl)
        try simp only [Act.put, List.setIfInBounds_toArray, List.set_cons_zero, List.set_cons_succ]
        refine wpAnyH_ready (rs := [0, 2, 8]) (by kernel_rfl) (by simp) (AllReadyH.cons rfl (fun K hK => ?_) (AllReadyH.cons rfl (fun K hK => ?_) (AllReadyH.cons rfl (fun K hK => ?_) AllReadyH.nil)))
        · have HTB := hid (show ¬ W.heap.size = b by have := HD.out.gr.size; have := HD.out.lt; omega)
          go_simp
          refine hK.out _ _ trivial (fun _ => ?_)
          clear hK K
          try simp only [Act.put, List.setIfInBounds_toArray, List.set_cons_zero, List.set_cons_succ]
          have HT := hid (heap_alloc_new W (.cells #[.string ⟨#[97]⟩, .string ⟨#[120]⟩, .string ⟨#[112, 58, 97]⟩, .string ⟨#[113, 58, 97]⟩, .string ⟨#[112, 58, 120]⟩, .string ⟨#[110, 115]⟩, .string ⟨#[110, 115, 58, 112]⟩, .string ⟨#[73, 100]⟩] 9))
          replace HD := hid (HD.out.alloc (.cells #[.string ⟨#[97]⟩, .string ⟨#[120]⟩, .string ⟨#[112, 58, 97]⟩, .string ⟨#[113, 58, 97]⟩, .string ⟨#[112, 58, 120]⟩, .string ⟨#[110, 115]⟩, .string ⟨#[110, 115, 58, 112]⟩, .string ⟨#[73, 100]⟩] 9))
          generalize W.heap.size = tb at *
          generalize W.alloc (.cells #[.string ⟨#[97]⟩, .string ⟨#[120]⟩, .string ⟨#[112, 58, 97]⟩, .string ⟨#[113, 58, 97]⟩, .string ⟨#[112, 58, 120]⟩, .string ⟨#[110, 115]⟩, .string ⟨#[110, 115, 58, 112]⟩, .string ⟨#[73, 100]⟩] 9) = W at *
          refine wpAnyH_ready (rs := [2, 8]) (by kernel_rfl) (by simp) (AllReadyH.cons rfl (fun K hK => ?_) (AllReadyH.cons rfl (fun K hK => ?_) AllReadyH.nil))
          · go_simp
            refine (cBelow 8 w0 a len cap b _ hlen HR.out HD.out.cur (by omega) (by omega)).mono ?_
            rintro e W2 ⟨x, rfl, hx, hC, hG⟩
            replace HT := hid ((hG.block tb (lt_of_heap HT.out) (fun e => HTB.out (Option.some.inj e))).trans HT.out)
            replace HD := hid (HD.out.draw hC hG)
            have hx8 : (x : Int) < 8 := by omega
            clear hC hG
            go_wp2_with fail
            refine hK.out _ _ trivial (fun _ => ?_)
            clear hK K
            try simp only [Act.put, List.setIfInBounds_toArray, List.set_cons_zero, List.set_cons_succ]
            generalize W2 = W at *
            refine wpAnyH_take (i := 3) (v := ?_) rfl (by kernel_rfl) (by kernel_rfl) (by kernel_rfl) (fun _ _ _ h => h) (Or.inl ⟨by rfl, ?_⟩) trivial ?_
            rotate_left
            · intro w hSw
              go_simp
              try (with_reducible rfl)
            try simp only [Act.put, List.setIfInBounds_toArray, List.set_cons_zero, List.set_cons_succ]
            refine wpAnyH_ready (rs := [4, 6, 8]) (by kernel_rfl) (by simp) (AllReadyH.cons rfl (fun K hK => ?_) (AllReadyH.cons rfl (fun K hK => ?_) (AllReadyH.cons rfl (fun K hK => ?_) AllReadyH.nil)))
            · obtain ⟨tA, hcA, htA⟩ := tabA_at _ tb x hx HT.out
              go_simp
              refine hK.out _ _ trivial (fun _ => ?_)
              clear hK K
              try simp only [Act.put, List.setIfInBounds_toArray, List.set_cons_zero, List.set_cons_succ]
              clear hcA
              refine wpAnyH_ready (rs := [6, 8]) (by kernel_rfl) (by simp) (AllReadyH.cons rfl (fun K hK => ?_) (AllReadyH.cons rfl (fun K hK => ?_) AllReadyH.nil))
              · go_simp
                refine (cText ⟨#[97, 98, 60, 38, 34, 62, 32, 49]⟩ 4 w0 a len cap b _ (by omega) (by omega) (by decide) (by decide) hlen HR.out HD.out.cur).mono ?_
                rintro e W3 ⟨tC, rfl, htC, hC, hG⟩
                replace HT := hid ((hG.block tb (lt_of_heap HT.out) (fun e => HTB.out (Option.some.inj e))).trans HT.out)
                replace HD := hid (HD.out.draw hC hG)
                clear hC hG
                go_wp2_with fail
                refine hK.out _ _ trivial (fun _ => ?_)
                clear hK K
                try simp only [Act.put, List.setIfInBounds_toArray, List.set_cons_zero, List.set_cons_succ]
                generalize W3 = W at *
                refine wpAnyH_take (i := 7) (v := ?_) rfl (by kernel_rfl) (by kernel_rfl) (by kernel_rfl) (fun _ _ _ h => h) (Or.inl ⟨by rfl, ?_⟩) trivial ?_
                rotate_left
                · intro w hSw
                  go_simp
                  try (with_reducible rfl)
                try simp only [Act.put, List.setIfInBounds_toArray, List.set_cons_zero, List.set_cons_succ]
                refine wpAnyH_ready (rs := [8]) (by kernel_rfl) (by simp) (AllReadyH.cons rfl (fun K hK => ?_) AllReadyH.nil)
                · have HXB := hid (show w.heap.size ≤ W.heap.size ∧ ¬ v.ownBlock = some W.heap.size from ⟨HD.out.gr.size, fun e => by have := (HD.out.own.lt _ e).2; omega⟩)
                  go_simp
                  refine hK.out _ _ trivial (fun _ => ?_)
                  clear hK K
                  try simp only [Act.put, List.setIfInBounds_toArray, List.set_cons_zero, List.set_cons_succ]
                  have HX := hid (heap_alloc_new W (.cells #[.string ⟨#[]⟩, .string ⟨#[]⟩] 115))
                  replace HD := hid (HD.out.alloc (.cells #[.string ⟨#[]⟩, .string ⟨#[]⟩] 115))
                  replace HT := hid (blk_alloc HT.out (.cells #[.string ⟨#[]⟩, .string ⟨#[]⟩] 115))
                  generalize W.heap.size = bx at *
                  generalize W.alloc (.cells #[.string ⟨#[]⟩, .string ⟨#[]⟩] 115) = W at *
                  refine wpAnyH_ready (rs := [9]) (by kernel_rfl) (by simp) (AllReadyH.cons rfl (fun K hK => ?_) AllReadyH.nil)
                  · obtain ⟨⟨e0, e1⟩, f0, f1⟩ := box2e HX.out
                    go_simp
                    refine hK.out _ _ trivial (fun _ => ?_)
                    clear hK K
                    try simp only [Act.put, List.setIfInBounds_toArray, List.set_cons_zero, List.set_cons_succ]
                    refine wpAnyH_done (by kernel_rfl) ?_ _
                    go_wp2_with fail
                    go_meet
                    exact ⟨bx, tA, tC, rfl, ⟨box_set2 HX.out, HXB.out, htA, Nat.le_of_lt htC, (HD.out.set HXB.out.1 HXB.out.2 0 _).set HXB.out.1 HXB.out.2 1 _⟩⟩
              · have HXB := hid (show w.heap.size ≤ W.heap.size ∧ ¬ v.ownBlock = some W.heap.size from ⟨HD.out.gr.size, fun e => by have := (HD.out.own.lt _ e).2; omega⟩)
                go_simp
                refine hK.out _ _ trivial (fun _ => ?_)
                clear hK K
                try simp only [Act.put, List.setIfInBounds_toArray, List.set_cons_zero, List.set_cons_succ]
                have HX := hid (heap_alloc_new W (.cells #[.string ⟨#[]⟩, .string ⟨#[]⟩] 115))
                replace HD := hid (HD.out.alloc (.cells #[.string ⟨#[]⟩, .string ⟨#[]⟩] 115))
                replace HT := hid (blk_alloc HT.out (.cells #[.string ⟨#[]⟩, .string ⟨#[]⟩] 115))
                generalize W.heap.size = bx at *
                generalize W.alloc (.cells #[.string ⟨#[]⟩, .string ⟨#[]⟩] 115) = W at *
                refine wpAnyH_ready (rs := [6]) (by kernel_rfl) (by simp) (AllReadyH.cons rfl (fun K hK => ?_) AllReadyH.nil)
                · go_simp
                  refine (cText ⟨#[97, 98, 60, 38, 34, 62, 32, 49]⟩ 4 w0 a len cap b _ (by omega) (by omega) (by decide) (by decide) hlen HR.out HD.out.cur).mono ?_
                  rintro e W3 ⟨tC, rfl, htC, hC, hG⟩
                  replace HT := hid ((hG.block tb (lt_of_heap HT.out) (fun e => HTB.out (Option.some.inj e))).trans HT.out)
                  replace HX := hid ((hG.block bx (lt_of_heap HX.out) (fun e => by have := HXB.out.1; have := HD.out.lt; have := Option.some.inj e; omega)).trans HX.out)
                  replace HD := hid (HD.out.draw hC hG)
                  clear hC hG
                  go_wp2_with fail
                  refine hK.out _ _ trivial (fun _ => ?_)
                  clear hK K
                  try simp only [Act.put, List.setIfInBounds_toArray, List.set_cons_zero, List.set_cons_succ]
                  generalize W3 = W at *
                  refine wpAnyH_take (i := 7) (v := ?_) rfl (by kernel_rfl) (by kernel_rfl) (by kernel_rfl) (fun _ _ _ h => h) (Or.inl ⟨by rfl, ?_⟩) trivial ?_
                  rotate_left
                  · intro w hSw
                    go_simp
                    try (with_reducible rfl)
                  try simp only [Act.put, List.setIfInBounds_toArray, List.set_cons_zero, List.set_cons_succ]
                  refine wpAnyH_ready (rs := [9]) (by kernel_rfl) (by simp) (AllReadyH.cons rfl (fun K hK => ?_) AllReadyH.nil)
                  · obtain ⟨⟨e0, e1⟩, f0, f1⟩ := box2e HX.out
                    go_simp
                    refine hK.out _ _ trivial (fun _ => ?_)
                    clear hK K
                    try simp only [Act.put, List.setIfInBounds_toArray, List.set_cons_zero, List.set_cons_succ]
                    refine wpAnyH_done (by kernel_rfl) ?_ _
                    go_wp2_with fail
                    go_meet
                    exact ⟨bx, tA, tC, rfl, ⟨box_set2 HX.out, HXB.out, htA, Nat.le_of_lt htC, (HD.out.set HXB.out.1 HXB.out.2 0 _).set HXB.out.1 HXB.out.2 1 _⟩⟩
            · go_simp
              refine (cText ⟨#[97, 98, 60, 38, 34, 62, 32, 49]⟩ 4 w0 a len cap b _ (by omega) (by omega) (by decide) (by decide) hlen HR.out HD.out.cur).mono ?_
              rintro e W3 ⟨tC, rfl, htC, hC, hG⟩
              replace HT := hid ((hG.block tb (lt_of_heap HT.out) (fun e => HTB.out (Option.some.inj e))).trans HT.out)
              replace HD := hid (HD.out.draw hC hG)
              clear hC hG
              go_wp2_with fail
              refine hK.out _ _ trivial (fun _ => ?_)
              clear hK K
              try simp only [Act.put, List.setIfInBounds_toArray, List.set_cons_zero, List.set_cons_succ]
              generalize W3 = W at *
              refine wpAnyH_ready (rs := [4, 8]) (by kernel_rfl) (by simp) (AllReadyH.cons rfl (fun K hK => ?_) (AllReadyH.cons rfl (fun K hK => ?_) AllReadyH.nil))
              · obtain ⟨tA, hcA, htA⟩ := tabA_at _ tb x hx HT.out
                go_simp
                refine hK.out _ _ trivial (fun _ => ?_)
                clear hK K
                try simp only [Act.put, List.setIfInBounds_toArray, List.set_cons_zero, List.set_cons_succ]
                clear hcA
                refine wpAnyH_take (i := 7) (v := ?_) rfl (by kernel_rfl) (by kernel_rfl) (by kernel_rfl) (fun _ _ _ h => h) (Or.inl ⟨by rfl, ?_⟩) trivial ?_
                rotate_left
                · intro w hSw
                  go_simp
                  try (with_reducible rfl)
                try simp only [Act.put, List.setIfInBounds_toArray, List.set_cons_zero, List.set_cons_succ]
                refine wpAnyH_ready (rs := [8]) (by kernel_rfl) (by simp) (AllReadyH.cons rfl (fun K hK => ?_) AllReadyH.nil)
                · have HXB := hid (show w.heap.size ≤ W.heap.size ∧ ¬ v.ownBlock = some W.heap.size from ⟨HD.out.gr.size, fun e => by have := (HD.out.own.lt _ e).2; omega⟩)
                  go_simp
                  refine hK.out _ _ trivial (fun _ => ?_)
                  clear hK K
                  try simp only [Act.put, List.setIfInBounds_toArray, List.set_cons_zero, List.set_cons_succ]
                  have HX := hid (heap_alloc_new W (.cells #[.string ⟨#[]⟩, .string ⟨#[]⟩] 115))
                  replace HD := hid (HD.out.alloc (.cells #[.string ⟨#[]⟩, .string ⟨#[]⟩] 115))
                  replace HT := hid (blk_alloc HT.out (.cells #[.string ⟨#[]⟩, .string ⟨#[]⟩] 115))
                  generalize W.heap.size = bx at *
                  generalize W.alloc (.cells #[.string ⟨#[]⟩, .string ⟨#[]⟩] 115) = W at *
                  refine wpAnyH_ready (rs := [9]) (by kernel_rfl) (by simp) (AllReadyH.cons rfl (fun K hK => ?_) AllReadyH.nil)
                  · obtain ⟨⟨e0, e1⟩, f0, f1⟩ := box2e HX.out
                    go_simp
                    refine hK.out _ _ trivial (fun _ => ?_)
                    clear hK K
                    try simp only [Act.put, List.setIfInBounds_toArray, List.set_cons_zero, List.set_cons_succ]
                    refine wpAnyH_done (by kernel_rfl) ?_ _
                    go_wp2_with fail
                    go_meet
                    exact ⟨bx, tA, tC, rfl, ⟨box_set2 HX.out, HXB.out, htA, Nat.le_of_lt htC, (HD.out.set HXB.out.1 HXB.out.2 0 _).set HXB.out.1 HXB.out.2 1 _⟩⟩
              · have HXB := hid (show w.heap.size ≤ W.heap.size ∧ ¬ v.ownBlock = some W.heap.size from ⟨HD.out.gr.size, fun e => by have := (HD.out.own.lt _ e).2; omega⟩)
                go_simp
                refine hK.out _ _ trivial (fun _ => ?_)
                clear hK K
                try simp only [Act.put, List.setIfInBounds_toArray, List.set_cons_zero, List.set_cons_succ]
                have HX := hid (heap_alloc_new W (.cells #[.string ⟨#[]⟩, .string ⟨#[]⟩] 115))
                replace HD := hid (HD.out.alloc (.cells #[.string ⟨#[]⟩, .string ⟨#[]⟩] 115))
                replace HT := hid (blk_alloc HT.out (.cells #[.string ⟨#[]⟩, .string ⟨#[]⟩] 115))
                generalize W.heap.size = bx at *
                generalize W.alloc (.cells #[.string ⟨#[]⟩, .string ⟨#[]⟩] 115) = W at *
                refine wpAnyH_ready (rs := [4]) (by kernel_rfl) (by simp) (AllReadyH.cons rfl (fun K hK => ?_) AllReadyH.nil)
                · obtain ⟨tA, hcA, htA⟩ := tabA_at _ tb x hx HT.out
                  go_simp
                  refine hK.out _ _ trivial (fun _ => ?_)
                  clear hK K
                  try simp only [Act.put, List.setIfInBounds_toArray, List.set_cons_zero, List.set_cons_succ]
                  clear hcA
                  refine wpAnyH_take (i := 7) (v := ?_) rfl (by kernel_rfl) (by kernel_rfl) (by kernel_rfl) (fun _ _ _ h => h) (Or.inl ⟨by rfl, ?_⟩) trivial ?_
                  rotate_left
                  · intro w hSw
                    go_simp
                    try (with_reducible rfl)
                  try simp only [Act.put, List.setIfInBounds_toArray, List.set_cons_zero, List.set_cons_succ]
                  refine wpAnyH_ready (rs := [9]) (by kernel_rfl) (by simp) (AllReadyH.cons rfl (fun K hK => ?_) AllReadyH.nil)
                  · obtain ⟨⟨e0, e1⟩, f0, f1⟩ := box2e HX.out
                    go_simp
                    refine hK.out _ _ trivial (fun _ => ?_)
                    clear hK K
                    try simp only [Act.put, List.setIfInBounds_toArray, List.set_cons_zero, List.set_cons_succ]
                    refine wpAnyH_done (by kernel_rfl) ?_ _
                    go_wp2_with fail
                    go_meet
                    exact ⟨bx, tA, tC, rfl, ⟨box_set2 HX.out, HXB.out, htA, Nat.le_of_lt htC, (HD.out.set HXB.out.1 HXB.out.2 0 _).set HXB.out.1 HXB.out.2 1 _⟩⟩
            · have HXB := hid (show w.heap.size ≤ W.heap.size ∧ ¬ v.ownBlock = some W.heap.size from ⟨HD.out.gr.size, fun e => by have := (HD.out.own.lt _ e).2; omega⟩)
              go_simp
              refine hK.out _ _ trivial (fun _ => ?_)
              clear hK K
              try simp only [Act.put, List.setIfInBounds_toArray, List.set_cons_zero, List.set_cons_succ]
              have HX := hid (heap_alloc_new W (.cells #[.string ⟨#[]⟩, .string ⟨#[]⟩] 115))
              replace HD := hid (HD.out.alloc (.cells #[.string ⟨#[]⟩, .string ⟨#[]⟩] 115))
              replace HT := hid (blk_alloc HT.out (.cells #[.string ⟨#[]⟩, .string ⟨#[]⟩] 115))
              generalize W.heap.size = bx at *
              generalize W.alloc (.cells #[.string ⟨#[]⟩, .string ⟨#[]⟩] 115) = W at *
              refine wpAnyH_ready (rs := [4, 6]) (by kernel_rfl) (by simp) (AllReadyH.cons rfl (fun K hK => ?_) (AllReadyH.cons rfl (fun K hK => ?_) AllReadyH.nil))
              · obtain ⟨tA, hcA, htA⟩ := tabA_at _ tb x hx HT.out
                go_simp
                refine hK.out _ _ trivial (fun _ => ?_)
                clear hK K
                try simp only [Act.put, List.setIfInBounds_toArray, List.set_cons_zero, List.set_cons_succ]
                clear hcA
                refine wpAnyH_ready (rs := [6]) (by kernel_rfl) (by simp) (AllReadyH.cons rfl (fun K hK => ?_) AllReadyH.nil)
                · go_simp
                  refine (cText ⟨#[97, 98, 60, 38, 34, 62, 32, 49]⟩ 4 w0 a len cap b _ (by omega) (by omega) (by decide) (by decide) hlen HR.out HD.out.cur).mono ?_
                  rintro e W3 ⟨tC, rfl, htC, hC, hG⟩
                  replace HT := hid ((hG.block tb (lt_of_heap HT.out) (fun e => HTB.out (Option.some.inj e))).trans HT.out)
                  replace HX := hid ((hG.block bx (lt_of_heap HX.out) (fun e => by have := HXB.out.1; have := HD.out.lt; have := Option.some.inj e; omega)).trans HX.out)
                  replace HD := hid (HD.out.draw hC hG)
                  clear hC hG
                  go_wp2_with fail
                  refine hK.out _ _ trivial (fun _ => ?_)
                  clear hK K
                  try simp only [Act.put, List.setIfInBounds_toArray, List.set_cons_zero, List.set_cons_succ]
                  generalize W3 = W at *
                  refine wpAnyH_take (i := 7) (v := ?_) rfl (by kernel_rfl) (by kernel_rfl) (by kernel_rfl) (fun _ _ _ h => h) (Or.inl ⟨by rfl, ?_⟩) trivial ?_
                  rotate_left
                  · intro w hSw
                    go_simp
                    try (with_reducible rfl)
                  try simp only [Act.put, List.setIfInBounds_toArray, List.set_cons_zero, List.set_cons_succ]
                  refine wpAnyH_ready (rs := [9]) (by kernel_rfl) (by simp) (AllReadyH.cons rfl (fun K hK => ?_) AllReadyH.nil)
                  · obtain ⟨⟨e0, e1⟩, f0, f1⟩ := box2e HX.out
                    go_simp
                    refine hK.out _ _ trivial (fun _ => ?_)
                    clear hK K
                    try simp only [Act.put, List.setIfInBounds_toArray, List.set_cons_zero, List.set_cons_succ]
                    refine wpAnyH_done (by kernel_rfl) ?_ _
                    go_wp2_with fail
                    go_meet
                    exact ⟨bx, tA, tC, rfl, ⟨box_set2 HX.out, HXB.out, htA, Nat.le_of_lt htC, (HD.out.set HXB.out.1 HXB.out.2 0 _).set HXB.out.1 HXB.out.2 1 _⟩⟩
              · go_simp
                refine (cText ⟨#[97, 98, 60, 38, 34, 62, 32, 49]⟩ 4 w0 a len cap b _ (by omega) (by omega) (by decide) (by decide) hlen HR.out HD.out.cur).mono ?_
                rintro e W3 ⟨tC, rfl, htC, hC, hG⟩
                replace HT := hid ((hG.block tb (lt_of_heap HT.out) (fun e => HTB.out (Option.some.inj e))).trans HT.out)
                replace HX := hid ((hG.block bx (lt_of_heap HX.out) (fun e => by have := HXB.out.1; have := HD.out.lt; have := Option.some.inj e; omega)).trans HX.out)
                replace HD := hid (HD.out.draw hC hG)
                clear hC hG
                go_wp2_with fail
                refine hK.out _ _ trivial (fun _ => ?_)
                clear hK K
                try simp only [Act.put, List.setIfInBounds_toArray, List.set_cons_zero, List.set_cons_succ]
                generalize W3 = W at *
                refine wpAnyH_ready (rs := [4]) (by kernel_rfl) (by simp) (AllReadyH.cons rfl (fun K hK => ?_) AllReadyH.nil)
                · obtain ⟨tA, hcA, htA⟩ := tabA_at _ tb x hx HT.out
                  go_simp
                  refine hK.out _ _ trivial (fun _ => ?_)
                  clear hK K
                  try simp only [Act.put, List.setIfInBounds_toArray, List.set_cons_zero, List.set_cons_succ]
                  clear hcA
                  refine wpAnyH_take (i := 7) (v := ?_) rfl (by kernel_rfl) (by kernel_rfl) (by kernel_rfl) (fun _ _ _ h => h) (Or.inl ⟨by rfl, ?_⟩) trivial ?_
                  rotate_left
                  · intro w hSw
                    go_simp
                    try (with_reducible rfl)
                  try simp only [Act.put, List.setIfInBounds_toArray, List.set_cons_zero, List.set_cons_succ]
                  refine wpAnyH_ready (rs := [9]) (by kernel_rfl) (by simp) (AllReadyH.cons rfl (fun K hK => ?_) AllReadyH.nil)
                  · obtain ⟨⟨e0, e1⟩, f0, f1⟩ := box2e HX.out
                    go_simp
                    refine hK.out _ _ trivial (fun _ => ?_)
                    clear hK K
                    try simp only [Act.put, List.setIfInBounds_toArray, List.set_cons_zero, List.set_cons_succ]
                    refine wpAnyH_done (by kernel_rfl) ?_ _
                    go_wp2_with fail
                    go_meet
                    exact ⟨bx, tA, tC, rfl, ⟨box_set2 HX.out, HXB.out, htA, Nat.le_of_lt htC, (HD.out.set HXB.out.1 HXB.out.2 0 _).set HXB.out.1 HXB.out.2 1 _⟩⟩
          · have HXB := hid (show w.heap.size ≤ W.heap.size ∧ ¬ v.ownBlock = some W.heap.size from ⟨HD.out.gr.size, fun e => by have := (HD.out.own.lt _ e).2; omega⟩)
            go_simp
            refine hK.out _ _ trivial (fun _ => ?_)
            clear hK K
            try simp only [Act.put, List.setIfInBounds_toArray, List.set_cons_zero, List.set_cons_succ]
            have HX := hid (heap_alloc_new W (.cells #[.string ⟨#[]⟩, .string ⟨#[]⟩] 115))
            replace HD := hid (HD.out.alloc (.cells #[.string ⟨#[]⟩, .string ⟨#[]⟩] 115))
            replace HT := hid (blk_alloc HT.out (.cells #[.string ⟨#[]⟩, .string ⟨#[]⟩] 115))
            generalize W.heap.size = bx at *
            generalize W.alloc (.cells #[.string ⟨#[]⟩, .string ⟨#[]⟩] 115) = W at *
            refine wpAnyH_ready (rs := [2]) (by kernel_rfl) (by simp) (AllReadyH.cons rfl (fun K hK => ?_) AllReadyH.nil)
            · go_simp
              refine (cBelow 8 w0 a len cap b _ hlen HR.out HD.out.cur (by omega) (by omega)).mono ?_
              rintro e W2 ⟨x, rfl, hx, hC, hG⟩
              replace HT := hid ((hG.block tb (lt_of_heap HT.out) (fun e => HTB.out (Option.some.inj e))).trans HT.out)
              replace HX := hid ((hG.block bx (lt_of_heap HX.out) (fun e => by have := HXB.out.1; have := HD.out.lt; have := Option.some.inj e; omega)).trans HX.out)
              replace HD := hid (HD.out.draw hC hG)
              have hx8 : (x : Int) < 8 := by omega
              clear hC hG
              go_wp2_with fail
              refine hK.out _ _ trivial (fun _ => ?_)
              clear hK K
              try simp only [Act.put, List.setIfInBounds_toArray, List.set_cons_zero, List.set_cons_succ]
              generalize W2 = W at *
              refine wpAnyH_take (i := 3) (v := ?_) rfl (by kernel_rfl) (by kernel_rfl) (by kernel_rfl) (fun _ _ _ h => h) (Or.inl ⟨by rfl, ?_⟩) trivial ?_
              rotate_left
              · intro w hSw
                go_simp
                try (with_reducible rfl)
              try simp only [Act.put, List.setIfInBounds_toArray, List.set_cons_zero, List.set_cons_succ]
              refine wpAnyH_ready (rs := [4, 6]) (by kernel_rfl) (by simp) (AllReadyH.cons rfl (fun K hK => ?_) (AllReadyH.cons rfl (fun K hK => ?_) AllReadyH.nil))
              · obtain ⟨tA, hcA, htA⟩ := tabA_at _ tb x hx HT.out
                go_simp
                refine hK.out _ _ trivial (fun _ => ?_)
                clear hK K
                try simp only [Act.put, List.setIfInBounds_toArray, List.set_cons_zero, List.set_cons_succ]
                clear hcA
                refine wpAnyH_ready (rs := [6]) (by kernel_rfl) (by simp) (AllReadyH.cons rfl (fun K hK => ?_) AllReadyH.nil)
                · go_simp
                  refine (cText ⟨#[97, 98, 60, 38, 34, 62, 32, 49]⟩ 4 w0 a len cap b _ (by omega) (by omega) (by decide) (by decide) hlen HR.out HD.out.cur).mono ?_
                  rintro e W3 ⟨tC, rfl, htC, hC, hG⟩
                  replace HT := hid ((hG.block tb (lt_of_heap HT.out) (fun e => HTB.out (Option.some.inj e))).trans HT.out)
                  replace HX := hid ((hG.block bx (lt_of_heap HX.out) (fun e => by have := HXB.out.1; have := HD.out.lt; have := Option.some.inj e; omega)).trans HX.out)
                  replace HD := hid (HD.out.draw hC hG)
                  clear hC hG
                  go_wp2_with fail
                  refine hK.out _ _ trivial (fun _ => ?_)
                  clear hK K
                  try simp only [Act.put, List.setIfInBounds_toArray, List.set_cons_zero, List.set_cons_succ]
                  generalize W3 = W at *
                  refine wpAnyH_take (i := 7) (v := ?_) rfl (by kernel_rfl) (by kernel_rfl) (by kernel_rfl) (fun _ _ _ h => h) (Or.inl ⟨by rfl, ?_⟩) trivial ?_
                  rotate_left
                  · intro w hSw
                    go_simp
                    try (with_reducible rfl)
                  try simp only [Act.put, List.setIfInBounds_toArray, List.set_cons_zero, List.set_cons_succ]
                  refine wpAnyH_ready (rs := [9]) (by kernel_rfl) (by simp) (AllReadyH.cons rfl (fun K hK => ?_) AllReadyH.nil)
                  · obtain ⟨⟨e0, e1⟩, f0, f1⟩ := box2e HX.out
                    go_simp
                    refine hK.out _ _ trivial (fun _ => ?_)
                    clear hK K
                    try simp only [Act.put, List.setIfInBounds_toArray, List.set_cons_zero, List.set_cons_succ]
                    refine wpAnyH_done (by kernel_rfl) ?_ _
                    go_wp2_with fail
                    go_meet
                    exact ⟨bx, tA, tC, rfl, ⟨box_set2 HX.out, HXB.out, htA, Nat.le_of_lt htC, (HD.out.set HXB.out.1 HXB.out.2 0 _).set HXB.out.1 HXB.out.2 1 _⟩⟩
              · go_simp
                refine (cText ⟨#[97, 98, 60, 38, 34, 62, 32, 49]⟩ 4 w0 a len cap b _ (by omega) (by omega) (by decide) (by decide) hlen HR.out HD.out.cur).mono ?_
                rintro e W3 ⟨tC, rfl, htC, hC, hG⟩
                replace HT := hid ((hG.block tb (lt_of_heap HT.out) (fun e => HTB.out (Option.some.inj e))).trans HT.out)
                replace HX := hid ((hG.block bx (lt_of_heap HX.out) (fun e => by have := HXB.out.1; have := HD.out.lt; have := Option.some.inj e; omega)).trans HX.out)
                replace HD := hid (HD.out.draw hC hG)
                clear hC hG
                go_wp2_with fail
                refine hK.out _ _ trivial (fun _ => ?_)
                clear hK K
                try simp only [Act.put, List.setIfInBounds_toArray, List.set_cons_zero, List.set_cons_succ]
                generalize W3 = W at *
                refine wpAnyH_ready (rs := [4]) (by kernel_rfl) (by simp) (AllReadyH.cons rfl (fun K hK => ?_) AllReadyH.nil)
                · obtain ⟨tA, hcA, htA⟩ := tabA_at _ tb x hx HT.out
                  go_simp
                  refine hK.out _ _ trivial (fun _ => ?_)
                  clear hK K
                  try simp only [Act.put, List.setIfInBounds_toArray, List.set_cons_zero, List.set_cons_succ]
                  clear hcA
                  refine wpAnyH_take (i := 7) (v := ?_) rfl (by kernel_rfl) (by kernel_rfl) (by kernel_rfl) (fun _ _ _ h => h) (Or.inl ⟨by rfl, ?_⟩) trivial ?_
                  rotate_left
                  · intro w hSw
                    go_simp
                    try (with_reducible rfl)
                  try simp only [Act.put, List.setIfInBounds_toArray, List.set_cons_zero, List.set_cons_succ]
                  refine wpAnyH_ready (rs := [9]) (by kernel_rfl) (by simp) (AllReadyH.cons rfl (fun K hK => ?_) AllReadyH.nil)
                  · obtain ⟨⟨e0, e1⟩, f0, f1⟩ := box2e HX.out
                    go_simp
                    refine hK.out _ _ trivial (fun _ => ?_)
                    clear hK K
                    try simp only [Act.put, List.setIfInBounds_toArray, List.set_cons_zero, List.set_cons_succ]
                    refine wpAnyH_done (by kernel_rfl) ?_ _
                    go_wp2_with fail
                    go_meet
                    exact ⟨bx, tA, tC, rfl, ⟨box_set2 HX.out, HXB.out, htA, Nat.le_of_lt htC, (HD.out.set HXB.out.1 HXB.out.2 0 _).set HXB.out.1 HXB.out.2 1 _⟩⟩
        · go_simp
          refine (cBelow 8 w0 a len cap b _ hlen HR.out HD.out.cur (by omega) (by omega)).mono ?_
          rintro e W2 ⟨x, rfl, hx, hC, hG⟩
          replace HD := hid (HD.out.draw hC hG)
          have hx8 : (x : Int) < 8 := by omega
          clear hC hG
          go_wp2_with fail
          refine hK.out _ _ trivial (fun _ => ?_)
          clear hK K
          try simp only [Act.put, List.setIfInBounds_toArray, List.set_cons_zero, List.set_cons_succ]
          generalize W2 = W at *
          refine wpAnyH_ready (rs := [0, 6, 8]) (by kernel_rfl) (by simp) (AllReadyH.cons rfl (fun K hK => ?_) (AllReadyH.cons rfl (fun K hK => ?_) (AllReadyH.cons rfl (fun K hK => ?_) AllReadyH.nil)))
          · have HTB := hid (show ¬ W.heap.size = b by have := HD.out.gr.size; have := HD.out.lt; omega)
            go_simp
            refine hK.out _ _ trivial (fun _ => ?_)
            clear hK K
            try simp only [Act.put, List.setIfInBounds_toArray, List.set_cons_zero, List.set_cons_succ]
            have HT := hid (heap_alloc_new W (.cells #[.string ⟨#[97]⟩, .string ⟨#[120]⟩, .string ⟨#[112, 58, 97]⟩, .string ⟨#[113, 58, 97]⟩, .string ⟨#[112, 58, 120]⟩, .string ⟨#[110, 115]⟩, .string ⟨#[110, 115, 58, 112]⟩, .string ⟨#[73, 100]⟩] 9))
            replace HD := hid (HD.out.alloc (.cells #[.string ⟨#[97]⟩, .string ⟨#[120]⟩, .string ⟨#[112, 58, 97]⟩, .string ⟨#[113, 58, 97]⟩, .string ⟨#[112, 58, 120]⟩, .string ⟨#[110, 115]⟩, .string ⟨#[110, 115, 58, 112]⟩, .string ⟨#[73, 100]⟩] 9))
            generalize W.heap.size = tb at *
            generalize W.alloc (.cells #[.string ⟨#[97]⟩, .string ⟨#[120]⟩, .string ⟨#[112, 58, 97]⟩, .string ⟨#[113, 58, 97]⟩, .string ⟨#[112, 58, 120]⟩, .string ⟨#[110, 115]⟩, .string ⟨#[110, 115, 58, 112]⟩, .string ⟨#[73, 100]⟩] 9) = W at *
            refine wpAnyH_take (i := 3) (v := ?_) rfl (by kernel_rfl) (by kernel_rfl) (by kernel_rfl) (fun _ _ _ h => h) (Or.inl ⟨by rfl, ?_⟩) trivial ?_
            rotate_left
            · intro w hSw
              go_simp
              try (with_reducible rfl)
            try simp only [Act.put, List.setIfInBounds_toArray, List.set_cons_zero, List.set_cons_succ]
            refine wpAnyH_ready (rs := [4, 6, 8]) (by kernel_rfl) (by simp) (AllReadyH.cons rfl (fun K hK => ?_) (AllReadyH.cons rfl (fun K hK => ?_) (AllReadyH.cons rfl (fun K hK => ?_) AllReadyH.nil)))
            · obtain ⟨tA, hcA, htA⟩ := tabA_at _ tb x hx HT.out
              go_simp
              refine hK.out _ _ trivial (fun _ => ?_)
              clear hK K
              try simp only [Act.put, List.setIfInBounds_toArray, List.set_cons_zero, List.set_cons_succ]
              clear hcA
              refine wpAnyH_ready (rs := [6, 8]) (by kernel_rfl) (by simp) (AllReadyH.cons rfl (fun K hK => ?_) (AllReadyH.cons rfl (fun K hK => ?_) AllReadyH.nil))
              · go_simp
                refine (cText ⟨#[97, 98, 60, 38, 34, 62, 32, 49]⟩ 4 w0 a len cap b _ (by omega) (by omega) (by decide) (by decide) hlen HR.out HD.out.cur).mono ?_
                rintro e W3 ⟨tC, rfl, htC, hC, hG⟩
                replace HT := hid ((hG.block tb (lt_of_heap HT.out) (fun e => HTB.out (Option.some.inj e))).trans HT.out)
                replace HD := hid (HD.out.draw hC hG)
                clear hC hG
                go_wp2_with fail
                refine hK.out _ _ trivial (fun _ => ?_)
                clear hK K
                try simp only [Act.put, List.setIfInBounds_toArray, List.set_cons_zero, List.set_cons_succ]
                generalize W3 = W at *
                refine wpAnyH_take (i := 7) (v := ?_) rfl (by kernel_rfl) (by kernel_rfl) (by kernel_rfl) (fun _ _ _ h => h) (Or.inl ⟨by rfl, ?_⟩) trivial ?_
                rotate_left
                · intro w hSw
                  go_simp
                  try (with_reducible rfl)
                try simp only [Act.put, List.setIfInBounds_toArray, List.set_cons_zero, List.set_cons_succ]
                refine wpAnyH_ready (rs := [8]) (by kernel_rfl) (by simp) (AllReadyH.cons rfl (fun K hK => ?_) AllReadyH.nil)
                · have HXB := hid (show w.heap.size ≤ W.heap.size ∧ ¬ v.ownBlock = some W.heap.size from ⟨HD.out.gr.size, fun e => by have := (HD.out.own.lt _ e).2; omega⟩)
                  go_simp
                  refine hK.out _ _ trivial (fun _ => ?_)
                  clear hK K
                  try simp only [Act.put, List.setIfInBounds_toArray, List.set_cons_zero, List.set_cons_succ]
                  have HX := hid (heap_alloc_new W (.cells #[.string ⟨#[]⟩, .string ⟨#[]⟩] 115))
                  replace HD := hid (HD.out.alloc (.cells #[.string ⟨#[]⟩, .string ⟨#[]⟩] 115))
                  replace HT := hid (blk_alloc HT.out (.cells #[.string ⟨#[]⟩, .string ⟨#[]⟩] 115))
                  generalize W.heap.size = bx at *
                  generalize W.alloc (.cells #[.string ⟨#[]⟩, .string ⟨#[]⟩] 115) = W at *
                  refine wpAnyH_ready (rs := [9]) (by kernel_rfl) (by simp) (AllReadyH.cons rfl (fun K hK => ?_) AllReadyH.nil)
                  · obtain ⟨⟨e0, e1⟩, f0, f1⟩ := box2e HX.out
                    go_simp
                    refine hK.out _ _ trivial (fun _ => ?_)
                    clear hK K
                    try simp only [Act.put, List.setIfInBounds_toArray, List.set_cons_zero, List.set_cons_succ]
                    refine wpAnyH_done (by kernel_rfl) ?_ _
                    go_wp2_with fail
                    go_meet
                    exact ⟨bx, tA, tC, rfl, ⟨box_set2 HX.out, HXB.out, htA, Nat.le_of_lt htC, (HD.out.set HXB.out.1 HXB.out.2 0 _).set HXB.out.1 HXB.out.2 1 _⟩⟩
              · have HXB := hid (show w.heap.size ≤ W.heap.size ∧ ¬ v.ownBlock = some W.heap.size from ⟨HD.out.gr.size, fun e => by have := (HD.out.own.lt _ e).2; omega⟩)
                go_simp
                refine hK.out _ _ trivial (fun _ => ?_)
                clear hK K
                try simp only [Act.put, List.setIfInBounds_toArray, List.set_cons_zero, List.set_cons_succ]
                have HX := hid (heap_alloc_new W (.cells #[.string ⟨#[]⟩, .string ⟨#[]⟩] 115))
                replace HD := hid (HD.out.alloc (.cells #[.string ⟨#[]⟩, .string ⟨#[]⟩] 115))
                replace HT := hid (blk_alloc HT.out (.cells #[.string ⟨#[]⟩, .string ⟨#[]⟩] 115))
                generalize W.heap.size = bx at *
                generalize W.alloc (.cells #[.string ⟨#[]⟩, .string ⟨#[]⟩] 115) = W at *
                refine wpAnyH_ready (rs := [6]) (by kernel_rfl) (by simp) (AllReadyH.cons rfl (fun K hK => ?_) AllReadyH.nil)
                · go_simp
                  refine (cText ⟨#[97, 98, 60, 38, 34, 62, 32, 49]⟩ 4 w0 a len cap b _ (by omega) (by omega) (by decide) (by decide) hlen HR.out HD.out.cur).mono ?_
                  rintro e W3 ⟨tC, rfl, htC, hC, hG⟩
                  replace HT := hid ((hG.block tb (lt_of_heap HT.out) (fun e => HTB.out (Option.some.inj e))).trans HT.out)
                  replace HX := hid ((hG.block bx (lt_of_heap HX.out) (fun e => by have := HXB.out.1; have := HD.out.lt; have := Option.some.inj e; omega)).trans HX.out)
                  replace HD := hid (HD.out.draw hC hG)
                  clear hC hG
                  go_wp2_with fail
                  refine hK.out _ _ trivial (fun _ => ?_)
                  clear hK K
                  try simp only [Act.put, List.setIfInBounds_toArray, List.set_cons_zero, List.set_cons_succ]
                  generalize W3 = W at *
                  refine wpAnyH_take (i := 7) (v := ?_) rfl (by kernel_rfl) (by kernel_rfl) (by kernel_rfl) (fun _ _ _ h => h) (Or.inl ⟨by rfl, ?_⟩) trivial ?_
                  rotate_left
                  · intro w hSw
                    go_simp
                    try (with_reducible rfl)
                  try simp only [Act.put, List.setIfInBounds_toArray, List.set_cons_zero, List.set_cons_succ]
                  refine wpAnyH_ready (rs := [9]) (by kernel_rfl) (by simp) (AllReadyH.cons rfl (fun K hK => ?_) AllReadyH.nil)
                  · obtain ⟨⟨e0, e1⟩, f0, f1⟩ := box2e HX.out
                    go_simp
                    refine hK.out _ _ trivial (fun _ => ?_)
                    clear hK K
                    try simp only [Act.put, List.setIfInBounds_toArray, List.set_cons_zero, List.set_cons_succ]
                    refine wpAnyH_done (by kernel_rfl) ?_ _
                    go_wp2_with fail
                    go_meet
                    exact ⟨bx, tA, tC, rfl, ⟨box_set2 HX.out, HXB.out, htA, Nat.le_of_lt htC, (HD.out.set HXB.out.1 HXB.out.2 0 _).set HXB.out.1 HXB.out.2 1 _⟩⟩
            · go_simp
              refine (cText ⟨#[97, 98, 60, 38, 34, 62, 32, 49]⟩ 4 w0 a len cap b _ (by omega) (by omega) (by decide) (by decide) hlen HR.out HD.out.cur).mono ?_
              rintro e W3 ⟨tC, rfl, htC, hC, hG⟩
              replace HT := hid ((hG.block tb (lt_of_heap HT.out) (fun e => HTB.out (Option.some.inj e))).trans HT.out)
              replace HD := hid (HD.out.draw hC hG)
              clear hC hG
              go_wp2_with fail
              refine hK.out _ _ trivial (fun _ => ?_)
              clear hK K
              try simp only [Act.put, List.setIfInBounds_toArray, List.set_cons_zero, List.set_cons_succ]
              generalize W3 = W at *
              refine wpAnyH_ready (rs := [4, 8]) (by kernel_rfl) (by simp) (AllReadyH.cons rfl (fun K hK => ?_) (AllReadyH.cons rfl (fun K hK => ?_) AllReadyH.nil))
              · obtain ⟨tA, hcA, htA⟩ := tabA_at _ tb x hx HT.out
                go_simp
                refine hK.out _ _ trivial (fun _ => ?_)
                clear hK K
                try simp only [Act.put, List.setIfInBounds_toArray, List.set_cons_zero, List.set_cons_succ]
                clear hcA
                refine wpAnyH_take (i := 7) (v := ?_) rfl (by kernel_rfl) (by kernel_rfl) (by kernel_rfl) (fun _ _ _ h => h) (Or.inl ⟨by rfl, ?_⟩) trivial ?_
                rotate_left
                · intro w hSw
                  go_simp
                  try (with_reducible rfl)
                try simp only [Act.put, List.setIfInBounds_toArray, List.set_cons_zero, List.set_cons_succ]
                refine wpAnyH_ready (rs := [8]) (by kernel_rfl) (by simp) (AllReadyH.cons rfl (fun K hK => ?_) AllReadyH.nil)
                · have HXB := hid (show w.heap.size ≤ W.heap.size ∧ ¬ v.ownBlock = some W.heap.size from ⟨HD.out.gr.size, fun e => by have := (HD.out.own.lt _ e).2; omega⟩)
                  go_simp
                  refine hK.out _ _ trivial (fun _ => ?_)
                  clear hK K
                  try simp only [Act.put, List.setIfInBounds_toArray, List.set_cons_zero, List.set_cons_succ]
                  have HX := hid (heap_alloc_new W (.cells #[.string ⟨#[]⟩, .string ⟨#[]⟩] 115))
                  replace HD := hid (HD.out.alloc (.cells #[.string ⟨#[]⟩, .string ⟨#[]⟩] 115))
                  replace HT := hid (blk_alloc HT.out (.cells #[.string ⟨#[]⟩, .string ⟨#[]⟩] 115))
                  generalize W.heap.size = bx at *
                  generalize W.alloc (.cells #[.string ⟨#[]⟩, .string ⟨#[]⟩] 115) = W at *
                  refine wpAnyH_ready (rs := [9]) (by kernel_rfl) (by simp) (AllReadyH.cons rfl (fun K hK => ?_) AllReadyH.nil)
                  · obtain ⟨⟨e0, e1⟩, f0, f1⟩ := box2e HX.out
                    go_simp
                    refine hK.out _ _ trivial (fun _ => ?_)
                    clear hK K
                    try simp only [Act.put, List.setIfInBounds_toArray, List.set_cons_zero, List.set_cons_succ]
                    refine wpAnyH_done (by kernel_rfl) ?_ _
                    go_wp2_with fail
                    go_meet
                    exact ⟨bx, tA, tC, rfl, ⟨box_set2 HX.out, HXB.out, htA, Nat.le_of_lt htC, (HD.out.set HXB.out.1 HXB.out.2 0 _).set HXB.out.1 HXB.out.2 1 _⟩⟩
              · have HXB := hid (show w.heap.size ≤ W.heap.size ∧ ¬ v.ownBlock = some W.heap.size from ⟨HD.out.gr.size, fun e => by have := (HD.out.own.lt _ e).2; omega⟩)
                go_simp
                refine hK.out _ _ trivial (fun _ => ?_)
                clear hK K
                try simp only [Act.put, List.setIfInBounds_toArray, List.set_cons_zero, List.set_cons_succ]
                have HX := hid (heap_alloc_new W (.cells #[.string ⟨#[]⟩, .string ⟨#[]⟩] 115))
                replace HD := hid (HD.out.alloc (.cells #[.string ⟨#[]⟩, .string ⟨#[]⟩] 115))
                replace HT := hid (blk_alloc HT.out (.cells #[.string ⟨#[]⟩, .string ⟨#[]⟩] 115))
                generalize W.heap.size = bx at *
                generalize W.alloc (.cells #[.string ⟨#[]⟩, .string ⟨#[]⟩] 115) = W at *
                refine wpAnyH_ready (rs := [4]) (by kernel_rfl) (by simp) (AllReadyH.cons rfl (fun K hK => ?_) AllReadyH.nil)
                · obtain ⟨tA, hcA, htA⟩ := tabA_at _ tb x hx HT.out
                  go_simp
                  refine hK.out _ _ trivial (fun _ => ?_)
                  clear hK K
                  try simp only [Act.put, List.setIfInBounds_toArray, List.set_cons_zero, List.set_cons_succ]
                  clear hcA
                  refine wpAnyH_take (i := 7) (v := ?_) rfl (by kernel_rfl) (by kernel_rfl) (by kernel_rfl) (fun _ _ _ h => h) (Or.inl ⟨by rfl, ?_⟩) trivial ?_
                  rotate_left
                  · intro w hSw
                    go_simp
                    try (with_reducible rfl)
                  try simp only [Act.put, List.setIfInBounds_toArray, List.set_cons_zero, List.set_cons_succ]
                  refine wpAnyH_ready (rs := [9]) (by kernel_rfl) (by simp) (AllReadyH.cons rfl (fun K hK => ?_) AllReadyH.nil)
                  · obtain ⟨⟨e0, e1⟩, f0, f1⟩ := box2e HX.out
                    go_simp
                    refine hK.out _ _ trivial (fun _ => ?_)
                    clear hK K
                    try simp only [Act.put, List.setIfInBounds_toArray, List.set_cons_zero, List.set_cons_succ]
                    refine wpAnyH_done (by kernel_rfl) ?_ _
                    go_wp2_with fail
                    go_meet
                    exact ⟨bx, tA, tC, rfl, ⟨box_set2 HX.out, HXB.out, htA, Nat.le_of_lt htC, (HD.out.set HXB.out.1 HXB.out.2 0 _).set HXB.out.1 HXB.out.2 1 _⟩⟩
            · have HXB := hid (show w.heap.size ≤ W.heap.size ∧ ¬ v.ownBlock = some W.heap.size from ⟨HD.out.gr.size, fun e => by have := (HD.out.own.lt _ e).2; omega⟩)
              go_simp
              refine hK.out _ _ trivial (fun _ => ?_)
              clear hK K
              try simp only [Act.put, List.setIfInBounds_toArray, List.set_cons_zero, List.set_cons_succ]
              have HX := hid (heap_alloc_new W (.cells #[.string ⟨#[]⟩, .string ⟨#[]⟩] 115))
              replace HD := hid (HD.out.alloc (.cells #[.string ⟨#[]⟩, .string ⟨#[]⟩] 115))
              replace HT := hid (blk_alloc HT.out (.cells #[.string ⟨#[]⟩, .string ⟨#[]⟩] 115))
              generalize W.heap.size = bx at *
              generalize W.alloc (.cells #[.string ⟨#[]⟩, .string ⟨#[]⟩] 115) = W at *
              refine wpAnyH_ready (rs := [4, 6]) (by kernel_rfl) (by simp) (AllReadyH.cons rfl (fun K hK => ?_) (AllReadyH.cons rfl (fun K hK => ?_) AllReadyH.nil))
              · obtain ⟨tA, hcA, htA⟩ := tabA_at _ tb x hx HT.out
                go_simp
                refine hK.out _ _ trivial (fun _ => ?_)
                clear hK K
                try simp only [Act.put, List.setIfInBounds_toArray, List.set_cons_zero, List.set_cons_succ]
                clear hcA
                refine wpAnyH_ready (rs := [6]) (by kernel_rfl) (by simp) (AllReadyH.cons rfl (fun K hK => ?_) AllReadyH.nil)
                · go_simp
                  refine (cText ⟨#[97, 98, 60, 38, 34, 62, 32, 49]⟩ 4 w0 a len cap b _ (by omega) (by omega) (by decide) (by decide) hlen HR.out HD.out.cur).mono ?_
                  rintro e W3 ⟨tC, rfl, htC, hC, hG⟩
                  replace HT := hid ((hG.block tb (lt_of_heap HT.out) (fun e => HTB.out (Option.some.inj e))).trans HT.out)
                  replace HX := hid ((hG.block bx (lt_of_heap HX.out) (fun e => by have := HXB.out.1; have := HD.out.lt; have := Option.some.inj e; omega)).trans HX.out)
                  replace HD := hid (HD.out.draw hC hG)
                  clear hC hG
                  go_wp2_with fail
                  refine hK.out _ _ trivial (fun _ => ?_)
                  clear hK K
                  try simp only [Act.put, List.setIfInBounds_toArray, List.set_cons_zero, List.set_cons_succ]
                  generalize W3 = W at *
                  refine wpAnyH_take (i := 7) (v := ?_) rfl (by kernel_rfl) (by kernel_rfl) (by kernel_rfl) (fun _ _ _ h => h) (Or.inl ⟨by rfl, ?_⟩) trivial ?_
                  rotate_left
                  · intro w hSw
                    go_simp
                    try (with_reducible rfl)
                  try simp only [Act.put, List.setIfInBounds_toArray, List.set_cons_zero, List.set_cons_succ]
                  refine wpAnyH_ready (rs := [9]) (by kernel_rfl) (by simp) (AllReadyH.cons rfl (fun K hK => ?_) AllReadyH.nil)
                  · obtain ⟨⟨e0, e1⟩, f0, f1⟩ := box2e HX.out
                    go_simp
                    refine hK.out _ _ trivial (fun _ => ?_)
                    clear hK K
                    try simp only [Act.put, List.setIfInBounds_toArray, List.set_cons_zero, List.set_cons_succ]
                    refine wpAnyH_done (by kernel_rfl) ?_ _
                    go_wp2_with fail
                    go_meet
                    exact ⟨bx, tA, tC, rfl, ⟨box_set2 HX.out, HXB.out, htA, Nat.le_of_lt htC, (HD.out.set HXB.out.1 HXB.out.2 0 _).set HXB.out.1 HXB.out.2 1 _⟩⟩
              · go_simp
                refine (cText ⟨#[97, 98, 60, 38, 34, 62, 32, 49]⟩ 4 w0 a len cap b _ (by omega) (by omega) (by decide) (by decide) hlen HR.out HD.out.cur).mono ?_
                rintro e W3 ⟨tC, rfl, htC, hC, hG⟩
                replace HT := hid ((hG.block tb (lt_of_heap HT.out) (fun e => HTB.out (Option.some.inj e))).trans HT.out)
                replace HX := hid ((hG.block bx (lt_of_heap HX.out) (fun e => by have := HXB.out.1; have := HD.out.lt; have := Option.some.inj e; omega)).trans HX.out)
                replace HD := hid (HD.out.draw hC hG)
                clear hC hG
                go_wp2_with fail
                refine hK.out _ _ trivial (fun _ => ?_)
                clear hK K
                try simp only [Act.put, List.setIfInBounds_toArray, List.set_cons_zero, List.set_cons_succ]
                generalize W3 = W at *
                refine wpAnyH_ready (rs := [4]) (by kernel_rfl) (by simp) (AllReadyH.cons rfl (fun K hK => ?_) AllReadyH.nil)
                · obtain ⟨tA, hcA, htA⟩ := tabA_at _ tb x hx HT.out
                  go_simp
                  refine hK.out _ _ trivial (fun _ => ?_)
                  clear hK K
                  try simp only [Act.put, List.setIfInBounds_toArray, List.set_cons_zero, List.set_cons_succ]
                  clear hcA
                  refine wpAnyH_take (i := 7) (v := ?_) rfl (by kernel_rfl) (by kernel_rfl) (by kernel_rfl) (fun _ _ _ h => h) (Or.inl ⟨by rfl, ?_⟩) trivial ?_
                  rotate_left
                  · intro w hSw
                    go_simp
                    try (with_reducible rfl)
                  try simp only [Act.put, List.setIfInBounds_toArray, List.set_cons_zero, List.set_cons_succ]
                  refine wpAnyH_ready (rs := [9]) (by kernel_rfl) (by simp) (AllReadyH.cons rfl (fun K hK => ?_) AllReadyH.nil)
                  · obtain ⟨⟨e0, e1⟩, f0, f1⟩ := box2e HX.out
                    go_simp
                    refine hK.out _ _ trivial (fun _ => ?_)
                    clear hK K
                    try simp only [Act.put, List.setIfInBounds_toArray, List.set_cons_zero, List.set_cons_succ]
                    refine wpAnyH_done (by kernel_rfl) ?_ _
                    go_wp2_with fail
                    go_meet
                    exact ⟨bx, tA, tC, rfl, ⟨box_set2 HX.out, HXB.out, htA, Nat.le_of_lt htC, (HD.out.set HXB.out.1 HXB.out.2 0 _).set HXB.out.1 HXB.out.2 1 _⟩⟩
          · go_simp
            refine (cText ⟨#[97, 98, 60, 38, 34, 62, 32, 49]⟩ 4 w0 a len cap b _ (by omega) (by omega) (by decide) (by decide) hlen HR.out HD.out.cur).mono ?_
            rintro e W3 ⟨tC, rfl, htC, hC, hG⟩
            replace HD := hid (HD.out.draw hC hG)
            clear hC hG
            go_wp2_with fail
            refine hK.out _ _ trivial (fun _ => ?_)
            clear hK K
            try simp only [Act.put, List.setIfInBounds_toArray, List.set_cons_zero, List.set_cons_succ]
            generalize W3 = W at *
            refine wpAnyH_ready (rs := [0, 8]) (by kernel_rfl) (by simp) (AllReadyH.cons rfl (fun K hK => ?_) (AllReadyH.cons rfl (fun K hK => ?_) AllReadyH.nil))
            · have HTB := hid (show ¬ W.heap.size = b by have := HD.out.gr.size; have := HD.out.lt; omega)
              go_simp
              refine hK.out _ _ trivial (fun _ => ?_)
              clear hK K
              try simp only [Act.put, List.setIfInBounds_toArray, List.set_cons_zero, List.set_cons_succ]
              have HT := hid (heap_alloc_new W (.cells #[.string ⟨#[97]⟩, .string ⟨#[120]⟩, .string ⟨#[112, 58, 97]⟩, .string ⟨#[113, 58, 97]⟩, .string ⟨#[112, 58, 120]⟩, .string ⟨#[110, 115]⟩, .string ⟨#[110, 115, 58, 112]⟩, .string ⟨#[73, 100]⟩] 9))
              replace HD := hid (HD.out.alloc (.cells #[.string ⟨#[97]⟩, .string ⟨#[120]⟩, .string ⟨#[112, 58, 97]⟩, .string ⟨#[113, 58, 97]⟩, .string ⟨#[112, 58, 120]⟩, .string ⟨#[110, 115]⟩, .string ⟨#[110, 115, 58, 112]⟩, .string ⟨#[73, 100]⟩] 9))
              generalize W.heap.size = tb at *
              generalize W.alloc (.cells #[.string ⟨#[97]⟩, .string ⟨#[120]⟩, .string ⟨#[112, 58, 97]⟩, .string ⟨#[113, 58, 97]⟩, .string ⟨#[112, 58, 120]⟩, .string ⟨#[110, 115]⟩, .string ⟨#[110, 115, 58, 112]⟩, .string ⟨#[73, 100]⟩] 9) = W at *
              refine wpAnyH_take (i := 3) (v := ?_) rfl (by kernel_rfl) (by kernel_rfl) (by kernel_rfl) (fun _ _ _ h => h) (Or.inl ⟨by rfl, ?_⟩) trivial ?_
              rotate_left
              · intro w hSw
                go_simp
                try (with_reducible rfl)
              try simp only [Act.put, List.setIfInBounds_toArray, List.set_cons_zero, List.set_cons_succ]
              refine wpAnyH_ready (rs := [4, 8]) (by kernel_rfl) (by simp) (AllReadyH.cons rfl (fun K hK => ?_) (AllReadyH.cons rfl (fun K hK => ?_) AllReadyH.nil))
              · obtain ⟨tA, hcA, htA⟩ := tabA_at _ tb x hx HT.out
                go_simp
                refine hK.out _ _ trivial (fun _ => ?_)
                clear hK K
                try simp only [Act.put, List.setIfInBounds_toArray, List.set_cons_zero, List.set_cons_succ]
                clear hcA
                refine wpAnyH_take (i := 7) (v := ?_) rfl (by kernel_rfl) (by kernel_rfl) (by kernel_rfl) (fun _ _ _ h => h) (Or.inl ⟨by rfl, ?_⟩) trivial ?_
                rotate_left
                · intro w hSw
                  go_simp
                  try (with_reducible rfl)
                try simp only [Act.put, List.setIfInBounds_toArray, List.set_cons_zero, List.set_cons_succ]
                refine wpAnyH_ready (rs := [8]) (by kernel_rfl) (by simp) (AllReadyH.cons rfl (fun K hK => ?_) AllReadyH.nil)
                · have HXB := hid (show w.heap.size ≤ W.heap.size ∧ ¬ v.ownBlock = some W.heap.size from ⟨HD.out.gr.size, fun e => by have := (HD.out.own.lt _ e).2; omega⟩)
                  go_simp
                  refine hK.out _ _ trivial (fun _ => ?_)
                  clear hK K
                  try simp only [Act.put, List.setIfInBounds_toArray, List.set_cons_zero, List.set_cons_succ]
                  have HX := hid (heap_alloc_new W (.cells #[.string ⟨#[]⟩, .string ⟨#[]⟩] 115))
                  replace HD := hid (HD.out.alloc (.cells #[.string ⟨#[]⟩, .string ⟨#[]⟩] 115))
                  replace HT := hid (blk_alloc HT.out (.cells #[.string ⟨#[]⟩, .string ⟨#[]⟩] 115))
                  generalize W.heap.size = bx at *
                  generalize W.alloc (.cells #[.string ⟨#[]⟩, .string ⟨#[]⟩] 115) = W at *
                  refine wpAnyH_ready (rs := [9]) (by kernel_rfl) (by simp) (AllReadyH.cons rfl (fun K hK => ?_) AllReadyH.nil)
                  · obtain ⟨⟨e0, e1⟩, f0, f1⟩ := box2e HX.out
                    go_simp
                    refine hK.out _ _ trivial (fun _ => ?_)
                    clear hK K
                    try simp only [Act.put, List.setIfInBounds_toArray, List.set_cons_zero, List.set_cons_succ]
                    refine wpAnyH_done (by kernel_rfl) ?_ _
                    go_wp2_with fail
                    go_meet
                    exact ⟨bx, tA, tC, rfl, ⟨box_set2 HX.out, HXB.out, htA, Nat.le_of_lt htC, (HD.out.set HXB.out.1 HXB.out.2 0 _).set HXB.out.1 HXB.out.2 1 _⟩⟩
              · have HXB := hid (show w.heap.size ≤ W.heap.size ∧ ¬ v.ownBlock = some W.heap.size from ⟨HD.out.gr.size, fun e => by have := (HD.out.own.lt _ e).2; omega⟩)
                go_simp
                refine hK.out _ _ trivial (fun _ => ?_)
                clear hK K
                try simp only [Act.put, List.setIfInBounds_toArray, List.set_cons_zero, List.set_cons_succ]
                have HX := hid (heap_alloc_new W (.cells #[.string ⟨#[]⟩, .string ⟨#[]⟩] 115))
                replace HD := hid (HD.out.alloc (.cells #[.string ⟨#[]⟩, .string ⟨#[]⟩] 115))
                replace HT := hid (blk_alloc HT.out (.cells #[.string ⟨#[]⟩, .string ⟨#[]⟩] 115))
                generalize W.heap.size = bx at *
                generalize W.alloc (.cells #[.string ⟨#[]⟩, .string ⟨#[]⟩] 115) = W at *
                refine wpAnyH_ready (rs := [4]) (by kernel_rfl) (by simp) (AllReadyH.cons rfl (fun K hK => ?_) AllReadyH.nil)
                · obtain ⟨tA, hcA, htA⟩ := tabA_at _ tb x hx HT.out
                  go_simp
                  refine hK.out _ _ trivial (fun _ => ?_)
                  clear hK K
                  try simp only [Act.put, List.setIfInBounds_toArray, List.set_cons_zero, List.set_cons_succ]
                  clear hcA
                  refine wpAnyH_take (i := 7) (v := ?_) rfl (by kernel_rfl) (by kernel_rfl) (by kernel_rfl) (fun _ _ _ h => h) (Or.inl ⟨by rfl, ?_⟩) trivial ?_
                  rotate_left
                  · intro w hSw
                    go_simp
                    try (with_reducible rfl)
                  try simp only [Act.put, List.setIfInBounds_toArray, List.set_cons_zero, List.set_cons_succ]
                  refine wpAnyH_ready (rs := [9]) (by kernel_rfl) (by simp) (AllReadyH.cons rfl (fun K hK => ?_) AllReadyH.nil)
                  · obtain ⟨⟨e0, e1⟩, f0, f1⟩ := box2e HX.out
                    go_simp
                    refine hK.out _ _ trivial (fun _ => ?_)
                    clear hK K
                    try simp only [Act.put, List.setIfInBounds_toArray, List.set_cons_zero, List.set_cons_succ]
                    refine wpAnyH_done (by kernel_rfl) ?_ _
                    go_wp2_with fail
                    go_meet
                    exact ⟨bx, tA, tC, rfl, ⟨box_set2 HX.out, HXB.out, htA, Nat.le_of_lt htC, (HD.out.set HXB.out.1 HXB.out.2 0 _).set HXB.out.1 HXB.out.2 1 _⟩⟩
            · have HXB := hid (show w.heap.size ≤ W.heap.size ∧ ¬ v.ownBlock = some W.heap.size from ⟨HD.out.gr.size, fun e => by have := (HD.out.own.lt _ e).2; omega⟩)
              go_simp
              refine hK.out _ _ trivial (fun _ => ?_)
              clear hK K
              try simp only [Act.put, List.setIfInBounds_toArray, List.set_cons_zero, List.set_cons_succ]
              have HX := hid (heap_alloc_new W (.cells #[.string ⟨#[]⟩, .string ⟨#[]⟩] 115))
              replace HD := hid (HD.out.alloc (.cells #[.string ⟨#[]⟩, .string ⟨#[]⟩] 115))
              generalize W.heap.size = bx at *
              generalize W.alloc (.cells #[.string ⟨#[]⟩, .string ⟨#[]⟩] 115) = W at *
              refine wpAnyH_ready (rs := [0]) (by kernel_rfl) (by simp) (AllReadyH.cons rfl (fun K hK => ?_) AllReadyH.nil)
              · have HTB := hid (show ¬ W.heap.size = b by have := HD.out.gr.size; have := HD.out.lt; omega)
                go_simp
                refine hK.out _ _ trivial (fun _ => ?_)
                clear hK K
                try simp only [Act.put, List.setIfInBounds_toArray, List.set_cons_zero, List.set_cons_succ]
                have HT := hid (heap_alloc_new W (.cells #[.string ⟨#[97]⟩, .string ⟨#[120]⟩, .string ⟨#[112, 58, 97]⟩, .string ⟨#[113, 58, 97]⟩, .string ⟨#[112, 58, 120]⟩, .string ⟨#[110, 115]⟩, .string ⟨#[110, 115, 58, 112]⟩, .string ⟨#[73, 100]⟩] 9))
                replace HD := hid (HD.out.alloc (.cells #[.string ⟨#[97]⟩, .string ⟨#[120]⟩, .string ⟨#[112, 58, 97]⟩, .string ⟨#[113, 58, 97]⟩, .string ⟨#[112, 58, 120]⟩, .string ⟨#[110, 115]⟩, .string ⟨#[110, 115, 58, 112]⟩, .string ⟨#[73, 100]⟩] 9))
                replace HX := hid (blk_alloc HX.out (.cells #[.string ⟨#[97]⟩, .string ⟨#[120]⟩, .string ⟨#[112, 58, 97]⟩, .string ⟨#[113, 58, 97]⟩, .string ⟨#[112, 58, 120]⟩, .string ⟨#[110, 115]⟩, .string ⟨#[110, 115, 58, 112]⟩, .string ⟨#[73, 100]⟩] 9))
                generalize W.heap.size = tb at *
                generalize W.alloc (.cells #[.string ⟨#[97]⟩, .string ⟨#[120]⟩, .string ⟨#[112, 58, 97]⟩, .string ⟨#[113, 58, 97]⟩, .string ⟨#[112, 58, 120]⟩, .string ⟨#[110, 115]⟩, .string ⟨#[110, 115, 58, 112]⟩, .string ⟨#[73, 100]⟩] 9) = W at *
                refine wpAnyH_take (i := 3) (v := ?_) rfl (by kernel_rfl) (by kernel_rfl) (by kernel_rfl) (fun _ _ _ h => h) (Or.inl ⟨by rfl, ?_⟩) trivial ?_
                rotate_left
                · intro w hSw
                  go_simp
                  try (with_reducible rfl)
                try simp only [Act.put, List.setIfInBounds_toArray, List.set_cons_zero, List.set_cons_succ]
                refine wpAnyH_ready (rs := [4]) (by kernel_rfl) (by simp) (AllReadyH.cons rfl (fun K hK => ?_) AllReadyH.nil)
                · obtain ⟨tA, hcA, htA⟩ := tabA_at _ tb x hx HT.out
                  go_simp
                  refine hK.out _ _ trivial (fun _ => ?_)
                  clear hK K
                  try simp only [Act.put, List.setIfInBounds_toArray, List.set_cons_zero, List.set_cons_succ]
                  clear hcA
                  refine wpAnyH_take (i := 7) (v := ?_) rfl (by kernel_rfl) (by kernel_rfl) (by kernel_rfl) (fun _ _ _ h => h) (Or.inl ⟨by rfl, ?_⟩) trivial ?_
                  rotate_left
                  · intro w hSw
                    go_simp
                    try (with_reducible rfl)
                  try simp only [Act.put, List.setIfInBounds_toArray, List.set_cons_zero, List.set_cons_succ]
                  refine wpAnyH_ready (rs := [9]) (by kernel_rfl) (by simp) (AllReadyH.cons rfl (fun K hK => ?_) AllReadyH.nil)
                  · obtain ⟨⟨e0, e1⟩, f0, f1⟩ := box2e HX.out
                    go_simp
                    refine hK.out _ _ trivial (fun _ => ?_)
                    clear hK K
                    try simp only [Act.put, List.setIfInBounds_toArray, List.set_cons_zero, List.set_cons_succ]
                    refine wpAnyH_done (by kernel_rfl) ?_ _
                    go_wp2_with fail
                    go_meet
                    exact ⟨bx, tA, tC, rfl, ⟨box_set2 HX.out, HXB.out, htA, Nat.le_of_lt htC, (HD.out.set HXB.out.1 HXB.out.2 0 _).set HXB.out.1 HXB.out.2 1 _⟩⟩
          · have HXB := hid (show w.heap.size ≤ W.heap.size ∧ ¬ v.ownBlock = some W.heap.size from ⟨HD.out.gr.size, fun e => by have := (HD.out.own.lt _ e).2; omega⟩)
            go_simp
            refine hK.out _ _ trivial (fun _ => ?_)
            clear hK K
            try simp only [Act.put, List.setIfInBounds_toArray, List.set_cons_zero, List.set_cons_succ]
            have HX := hid (heap_alloc_new W (.cells #[.string ⟨#[]⟩, .string ⟨#[]⟩] 115))
            replace HD := hid (HD.out.alloc (.cells #[.string ⟨#[]⟩, .string ⟨#[]⟩] 115))
            generalize W.heap.size = bx at *
            generalize W.alloc (.cells #[.string ⟨#[]⟩, .string ⟨#[]⟩] 115) = W at *
            refine wpAnyH_ready (rs := [0, 6]) (by kernel_rfl) (by simp) (AllReadyH.cons rfl (fun K hK => ?_) (AllReadyH.cons rfl (fun K hK => ?_) AllReadyH.nil))
            · have HTB := hid (show ¬ W.heap.size = b by have := HD.out.gr.size; have := HD.out.lt; omega)
              go_simp
              refine hK.out _ _ trivial (fun _ => ?_)
              clear hK K
              try simp only [Act.put, List.setIfInBounds_toArray, List.set_cons_zero, List.set_cons_succ]
              have HT := hid (heap_alloc_new W (.cells #[.string ⟨#[97]⟩, .string ⟨#[120]⟩, .string ⟨#[112, 58, 97]⟩, .string ⟨#[113, 58, 97]⟩, .string ⟨#[112, 58, 120]⟩, .string ⟨#[110, 115]⟩, .string ⟨#[110, 115, 58, 112]⟩, .string ⟨#[73, 100]⟩] 9))
              replace HD := hid (HD.out.alloc (.cells #[.string ⟨#[97]⟩, .string ⟨#[120]⟩, .string ⟨#[112, 58, 97]⟩, .string ⟨#[113, 58, 97]⟩, .string ⟨#[112, 58, 120]⟩, .string ⟨#[110, 115]⟩, .string ⟨#[110, 115, 58, 112]⟩, .string ⟨#[73, 100]⟩] 9))
              replace HX := hid (blk_alloc HX.out (.cells #[.string ⟨#[97]⟩, .string ⟨#[120]⟩, .string ⟨#[112, 58, 97]⟩, .string ⟨#[113, 58, 97]⟩, .string ⟨#[112, 58, 120]⟩, .string ⟨#[110, 115]⟩, .string ⟨#[110, 115, 58, 112]⟩, .string ⟨#[73, 100]⟩] 9))
              generalize W.heap.size = tb at *
              generalize W.alloc (.cells #[.string ⟨#[97]⟩, .string ⟨#[120]⟩, .string ⟨#[112, 58, 97]⟩, .string ⟨#[113, 58, 97]⟩, .string ⟨#[112, 58, 120]⟩, .string ⟨#[110, 115]⟩, .string ⟨#[110, 115, 58, 112]⟩, .string ⟨#[73, 100]⟩] 9) = W at *
              refine wpAnyH_take (i := 3) (v := ?_) rfl (by kernel_rfl) (by kernel_rfl) (by kernel_rfl) (fun _ _ _ h => h) (Or.inl ⟨by rfl, ?_⟩) trivial ?_
              rotate_left
              · intro w hSw
                go_simp
                try (with_reducible rfl)
              try simp only [Act.put, List.setIfInBounds_toArray, List.set_cons_zero, List.set_cons_succ]
              refine wpAnyH_ready (rs := [4, 6]) (by kernel_rfl) (by simp) (AllReadyH.cons rfl (fun K hK => ?_) (AllReadyH.cons rfl (fun K hK => ?_) AllReadyH.nil))
              · obtain ⟨tA, hcA, htA⟩ := tabA_at _ tb x hx HT.out
                go_simp
                refine hK.out _ _ trivial (fun _ => ?_)
                clear hK K
                try simp only [Act.put, List.setIfInBounds_toArray, List.set_cons_zero, List.set_cons_succ]
                clear hcA
                refine wpAnyH_ready (rs := [6]) (by kernel_rfl) (by simp) (AllReadyH.cons rfl (fun K hK => ?_) AllReadyH.nil)
                · go_simp
                  refine (cText ⟨#[97, 98, 60, 38, 34, 62, 32, 49]⟩ 4 w0 a len cap b _ (by omega) (by omega) (by decide) (by decide) hlen HR.out HD.out.cur).mono ?_
                  rintro e W3 ⟨tC, rfl, htC, hC, hG⟩
                  replace HT := hid ((hG.block tb (lt_of_heap HT.out) (fun e => HTB.out (Option.some.inj e))).trans HT.out)
                  replace HX := hid ((hG.block bx (lt_of_heap HX.out) (fun e => by have := HXB.out.1; have := HD.out.lt; have := Option.some.inj e; omega)).trans HX.out)
                  replace HD := hid (HD.out.draw hC hG)
                  clear hC hG
                  go_wp2_with fail
                  refine hK.out _ _ trivial (fun _ => ?_)
                  clear hK K
                  try simp only [Act.put, List.setIfInBounds_toArray, List.set_cons_zero, List.set_cons_succ]
                  generalize W3 = W at *
                  refine wpAnyH_take (i := 7) (v := ?_) rfl (by kernel_rfl) (by kernel_rfl) (by kernel_rfl) (fun _ _ _ h => h) (Or.inl ⟨by rfl, ?_⟩) trivial ?_
                  rotate_left
                  · intro w hSw
                    go_simp
                    try (with_reducible rfl)
                  try simp only [Act.put, List.setIfInBounds_toArray, List.set_cons_zero, List.set_cons_succ]
                  refine wpAnyH_ready (rs := [9]) (by kernel_rfl) (by simp) (AllReadyH.cons rfl (fun K hK => ?_) AllReadyH.nil)
                  · obtain ⟨⟨e0, e1⟩, f0, f1⟩ := box2e HX.out
                    go_simp
                    refine hK.out _ _ trivial (fun _ => ?_)
                    clear hK K
                    try simp only [Act.put, List.setIfInBounds_toArray, List.set_cons_zero, List.set_cons_succ]
                    refine wpAnyH_done (by kernel_rfl) ?_ _
                    go_wp2_with fail
                    go_meet
                    exact ⟨bx, tA, tC, rfl, ⟨box_set2 HX.out, HXB.out, htA, Nat.le_of_lt htC, (HD.out.set HXB.out.1 HXB.out.2 0 _).set HXB.out.1 HXB.out.2 1 _⟩⟩
              · go_simp
                refine (cText ⟨#[97, 98, 60, 38, 34, 62, 32, 49]⟩ 4 w0 a len cap b _ (by omega) (by omega) (by decide) (by decide) hlen HR.out HD.out.cur).mono ?_
                rintro e W3 ⟨tC, rfl, htC, hC, hG⟩
                replace HT := hid ((hG.block tb (lt_of_heap HT.out) (fun e => HTB.out (Option.some.inj e))).trans HT.out)
                replace HX := hid ((hG.block bx (lt_of_heap HX.out) (fun e => by have := HXB.out.1; have := HD.out.lt; have := Option.some.inj e; omega)).trans HX.out)
                replace HD := hid (HD.out.draw hC hG)
                clear hC hG
                go_wp2_with fail
                refine hK.out _ _ trivial (fun _ => ?_)
                clear hK K
                try simp only [Act.put, List.setIfInBounds_toArray, List.set_cons_zero, List.set_cons_succ]
                generalize W3 = W at *
                refine wpAnyH_ready (rs := [4]) (by kernel_rfl) (by simp) (AllReadyH.cons rfl (fun K hK => ?_) AllReadyH.nil)
                · obtain ⟨tA, hcA, htA⟩ := tabA_at _ tb x hx HT.out
                  go_simp
                  refine hK.out _ _ trivial (fun _ => ?_)
                  clear hK K
                  try simp only [Act.put, List.setIfInBounds_toArray, List.set_cons_zero, List.set_cons_succ]
                  clear hcA
                  refine wpAnyH_take (i := 7) (v := ?_) rfl (by kernel_rfl) (by kernel_rfl) (by kernel_rfl) (fun _ _ _ h => h) (Or.inl ⟨by rfl, ?_⟩) trivial ?_
                  rotate_left
                  · intro w hSw
                    go_simp
                    try (with_reducible rfl)
                  try simp only [Act.put, List.setIfInBounds_toArray, List.set_cons_zero, List.set_cons_succ]
                  refine wpAnyH_ready (rs := [9]) (by kernel_rfl) (by simp) (AllReadyH.cons rfl (fun K hK => ?_) AllReadyH.nil)
                  · obtain ⟨⟨e0, e1⟩, f0, f1⟩ := box2e HX.out
                    go_simp
                    refine hK.out _ _ trivial (fun _ => ?_)
                    clear hK K
                    try simp only [Act.put, List.setIfInBounds_toArray, List.set_cons_zero, List.set_cons_succ]
                    refine wpAnyH_done (by kernel_rfl) ?_ _
                    go_wp2_with fail
                    go_meet
                    exact ⟨bx, tA, tC, rfl, ⟨box_set2 HX.out, HXB.out, htA, Nat.le_of_lt htC, (HD.out.set HXB.out.1 HXB.out.2 0 _).set HXB.out.1 HXB.out.2 1 _⟩⟩
            · go_simp
              refine (cText ⟨#[97, 98, 60, 38, 34, 62, 32, 49]⟩ 4 w0 a len cap b _ (by omega) (by omega) (by decide) (by decide) hlen HR.out HD.out.cur).mono ?_
              rintro e W3 ⟨tC, rfl, htC, hC, hG⟩
              replace HX := hid ((hG.block bx (lt_of_heap HX.out) (fun e => by have := HXB.out.1; have := HD.out.lt; have := Option.some.inj e; omega)).trans HX.out)
              replace HD := hid (HD.out.draw hC hG)
              clear hC hG
              go_wp2_with fail
              refine hK.out _ _ trivial (fun _ => ?_)
              clear hK K
              try simp only [Act.put, List.setIfInBounds_toArray, List.set_cons_zero, List.set_cons_succ]
              generalize W3 = W at *
              refine wpAnyH_ready (rs := [0]) (by kernel_rfl) (by simp) (AllReadyH.cons rfl (fun K hK => ?_) AllReadyH.nil)
              · have HTB := hid (show ¬ W.heap.size = b by have := HD.out.gr.size; have := HD.out.lt; omega)
                go_simp
                refine hK.out _ _ trivial (fun _ => ?_)
                clear hK K
                try simp only [Act.put, List.setIfInBounds_toArray, List.set_cons_zero, List.set_cons_succ]
                have HT := hid (heap_alloc_new W (.cells #[.string ⟨#[97]⟩, .string ⟨#[120]⟩, .string ⟨#[112, 58, 97]⟩, .string ⟨#[113, 58, 97]⟩, .string ⟨#[112, 58, 120]⟩, .string ⟨#[110, 115]⟩, .string ⟨#[110, 115, 58, 112]⟩, .string ⟨#[73, 100]⟩] 9))
                replace HD := hid (HD.out.alloc (.cells #[.string ⟨#[97]⟩, .string ⟨#[120]⟩, .string ⟨#[112, 58, 97]⟩, .string ⟨#[113, 58, 97]⟩, .string ⟨#[112, 58, 120]⟩, .string ⟨#[110, 115]⟩, .string ⟨#[110, 115, 58, 112]⟩, .string ⟨#[73, 100]⟩] 9))
                replace HX := hid (blk_alloc HX.out (.cells #[.string ⟨#[97]⟩, .string ⟨#[120]⟩, .string ⟨#[112, 58, 97]⟩, .string ⟨#[113, 58, 97]⟩, .string ⟨#[112, 58, 120]⟩, .string ⟨#[110, 115]⟩, .string ⟨#[110, 115, 58, 112]⟩, .string ⟨#[73, 100]⟩] 9))
                generalize W.heap.size = tb at *
                generalize W.alloc (.cells #[.string ⟨#[97]⟩, .string ⟨#[120]⟩, .string ⟨#[112, 58, 97]⟩, .string ⟨#[113, 58, 97]⟩, .string ⟨#[112, 58, 120]⟩, .string ⟨#[110, 115]⟩, .string ⟨#[110, 115, 58, 112]⟩, .string ⟨#[73, 100]⟩] 9) = W at *
                refine wpAnyH_take (i := 3) (v := ?_) rfl (by kernel_rfl) (by kernel_rfl) (by kernel_rfl) (fun _ _ _ h => h) (Or.inl ⟨by rfl, ?_⟩) trivial ?_
                rotate_left
                · intro w hSw
                  go_simp
                  try (with_reducible rfl)
                try simp only [Act.put, List.setIfInBounds_toArray, List.set_cons_zero, List.set_cons_succ]
                refine wpAnyH_ready (rs := [4]) (by kernel_rfl) (by simp) (AllReadyH.cons rfl (fun K hK => ?_) AllReadyH.nil)
                · obtain ⟨tA, hcA, htA⟩ := tabA_at _ tb x hx HT.out
                  go_simp
                  refine hK.out _ _ trivial (fun _ => ?_)
                  clear hK K
                  try simp only [Act.put, List.setIfInBounds_toArray, List.set_cons_zero, List.set_cons_succ]
                  clear hcA
                  refine wpAnyH_take (i := 7) (v := ?_) rfl (by kernel_rfl) (by kernel_rfl) (by kernel_rfl) (fun _ _ _ h => h) (Or.inl ⟨by rfl, ?_⟩) trivial ?_
                  rotate_left
                  · intro w hSw
                    go_simp
                    try (with_reducible rfl)
                  try simp only [Act.put, List.setIfInBounds_toArray, List.set_cons_zero, List.set_cons_succ]
                  refine wpAnyH_ready (rs := [9]) (by kernel_rfl) (by simp) (AllReadyH.cons rfl (fun K hK => ?_) AllReadyH.nil)
                  · obtain ⟨⟨e0, e1⟩, f0, f1⟩ := box2e HX.out
                    go_simp
                    refine hK.out _ _ trivial (fun _ => ?_)
                    clear hK K
                    try simp only [Act.put, List.setIfInBounds_toArray, List.set_cons_zero, List.set_cons_succ]
                    refine wpAnyH_done (by kernel_rfl) ?_ _
                    go_wp2_with fail
                    go_meet
                    exact ⟨bx, tA, tC, rfl, ⟨box_set2 HX.out, HXB.out, htA, Nat.le_of_lt htC, (HD.out.set HXB.out.1 HXB.out.2 0 _).set HXB.out.1 HXB.out.2 1 _⟩⟩
        · have HXB := hid (show w.heap.size ≤ W.heap.size ∧ ¬ v.ownBlock = some W.heap.size from ⟨HD.out.gr.size, fun e => by have := (HD.out.own.lt _ e).2; omega⟩)
          go_simp
          refine hK.out _ _ trivial (fun _ => ?_)
          clear hK K
          try simp only [Act.put, List.setIfInBounds_toArray, List.set_cons_zero, List.set_cons_succ]
          have HX := hid (heap_alloc_new W (.cells #[.string ⟨#[]⟩, .string ⟨#[]⟩] 115))
          replace HD := hid (HD.out.alloc (.cells #[.string ⟨#[]⟩, .string ⟨#[]⟩] 115))
          generalize W.heap.size = bx at *
          generalize W.alloc (.cells #[.string ⟨#[]⟩, .string ⟨#[]⟩] 115) = W at *
          refine wpAnyH_ready (rs := [0, 2]) (by kernel_rfl) (by simp) (AllReadyH.cons rfl (fun K hK => ?_) (AllReadyH.cons rfl (fun K hK => ?_) AllReadyH.nil))
          · have HTB := hid (show ¬ W.heap.size = b by have := HD.out.gr.size; have := HD.out.lt; omega)
            go_simp
            refine hK.out _ _ trivial (fun _ => ?_)
            clear hK K
            try simp only [Act.put, List.setIfInBounds_toArray, List.set_cons_zero, List.set_cons_succ]
            have HT := hid (heap_alloc_new W (.cells #[.string ⟨#[97]⟩, .string ⟨#[120]⟩, .string ⟨#[112, 58, 97]⟩, .string ⟨#[113, 58, 97]⟩, .string ⟨#[112, 58, 120]⟩, .string ⟨#[110, 115]⟩, .string ⟨#[110, 115, 58, 112]⟩, .string ⟨#[73, 100]⟩] 9))
            replace HD := hid (HD.out.alloc (.cells #[.string ⟨#[97]⟩, .string ⟨#[120]⟩, .string ⟨#[112, 58, 97]⟩, .string ⟨#[113, 58, 97]⟩, .string ⟨#[112, 58, 120]⟩, .string ⟨#[110, 115]⟩, .string ⟨#[110, 115, 58, 112]⟩, .string ⟨#[73, 100]⟩] 9))
            replace HX := hid (blk_alloc HX.out (.cells #[.string ⟨#[97]⟩, .string ⟨#[120]⟩, .string ⟨#[112, 58, 97]⟩, .string ⟨#[113, 58, 97]⟩, .string ⟨#[112, 58, 120]⟩, .string ⟨#[110, 115]⟩, .string ⟨#[110, 115, 58, 112]⟩, .string ⟨#[73, 100]⟩] 9))
            generalize W.heap.size = tb at *
            generalize W.alloc (.cells #[.string ⟨#[97]⟩, .string ⟨#[120]⟩, .string ⟨#[112, 58, 97]⟩, .string ⟨#[113, 58, 97]⟩, .string ⟨#[112, 58, 120]⟩, .string ⟨#[110, 115]⟩, .string ⟨#[110, 115, 58, 112]⟩, .string ⟨#[73, 100]⟩] 9) = W at *
            refine wpAnyH_ready (rs := [2]) (by kernel_rfl) (by simp) (AllReadyH.cons rfl (fun K hK => ?_) AllReadyH.nil)
            · go_simp
              refine (cBelow 8 w0 a len cap b _ hlen HR.out HD.out.cur (by omega) (by omega)).mono ?_
              rintro e W2 ⟨x, rfl, hx, hC, hG⟩
              replace HT := hid ((hG.block tb (lt_of_heap HT.out) (fun e => HTB.out (Option.some.inj e))).trans HT.out)
              replace HX := hid ((hG.block bx (lt_of_heap HX.out) (fun e => by have := HXB.out.1; have := HD.out.lt; have := Option.some.inj e; omega)).trans HX.out)
              replace HD := hid (HD.out.draw hC hG)
              have hx8 : (x : Int) < 8 := by omega
              clear hC hG
              go_wp2_with fail
              refine hK.out _ _ trivial (fun _ => ?_)
              clear hK K
              try simp only [Act.put, List.setIfInBounds_toArray, List.set_cons_zero, List.set_cons_succ]
              generalize W2 = W at *
              refine wpAnyH_take (i := 3) (v := ?_) rfl (by kernel_rfl) (by kernel_rfl) (by kernel_rfl) (fun _ _ _ h => h) (Or.inl ⟨by rfl, ?_⟩) trivial ?_
              rotate_left
              · intro w hSw
                go_simp
                try (with_reducible rfl)
              try simp only [Act.put, List.setIfInBounds_toArray, List.set_cons_zero, List.set_cons_succ]
              refine wpAnyH_ready (rs := [4, 6]) (by kernel_rfl) (by simp) (AllReadyH.cons rfl (fun K hK => ?_) (AllReadyH.cons rfl (fun K hK => ?_) AllReadyH.nil))
              · obtain ⟨tA, hcA, htA⟩ := tabA_at _ tb x hx HT.out
                go_simp
                refine hK.out _ _ trivial (fun _ => ?_)
                clear hK K
                try simp only [Act.put, List.setIfInBounds_toArray, List.set_cons_zero, List.set_cons_succ]
                clear hcA
                refine wpAnyH_ready (rs := [6]) (by kernel_rfl) (by simp) (AllReadyH.cons rfl (fun K hK => ?_) AllReadyH.nil)
                · go_simp
                  refine (cText ⟨#[97, 98, 60, 38, 34, 62, 32, 49]⟩ 4 w0 a len cap b _ (by omega) (by omega) (by decide) (by decide) hlen HR.out HD.out.cur).mono ?_
                  rintro e W3 ⟨tC, rfl, htC, hC, hG⟩
                  replace HT := hid ((hG.block tb (lt_of_heap HT.out) (fun e => HTB.out (Option.some.inj e))).trans HT.out)
                  replace HX := hid ((hG.block bx (lt_of_heap HX.out) (fun e => by have := HXB.out.1; have := HD.out.lt; have := Option.some.inj e; omega)).trans HX.out)
                  replace HD := hid (HD.out.draw hC hG)
                  clear hC hG
                  go_wp2_with fail
                  refine hK.out _ _ trivial (fun _ => ?_)
                  clear hK K
                  try simp only [Act.put, List.setIfInBounds_toArray, List.set_cons_zero, List.set_cons_succ]
                  generalize W3 = W at *
                  refine wpAnyH_take (i := 7) (v := ?_) rfl (by kernel_rfl) (by kernel_rfl) (by kernel_rfl) (fun _ _ _ h => h) (Or.inl ⟨by rfl, ?_⟩) trivial ?_
                  rotate_left
                  · intro w hSw
                    go_simp
                    try (with_reducible rfl)
                  try simp only [Act.put, List.setIfInBounds_toArray, List.set_cons_zero, List.set_cons_succ]
                  refine wpAnyH_ready (rs := [9]) (by kernel_rfl) (by simp) (AllReadyH.cons rfl (fun K hK => ?_) AllReadyH.nil)
                  · obtain ⟨⟨e0, e1⟩, f0, f1⟩ := box2e HX.out
                    go_simp
                    refine hK.out _ _ trivial (fun _ => ?_)
                    clear hK K
                    try simp only [Act.put, List.setIfInBounds_toArray, List.set_cons_zero, List.set_cons_succ]
                    refine wpAnyH_done (by kernel_rfl) ?_ _
                    go_wp2_with fail
                    go_meet
                    exact ⟨bx, tA, tC, rfl, ⟨box_set2 HX.out, HXB.out, htA, Nat.le_of_lt htC, (HD.out.set HXB.out.1 HXB.out.2 0 _).set HXB.out.1 HXB.out.2 1 _⟩⟩
              · go_simp
                refine (cText ⟨#[97, 98, 60, 38, 34, 62, 32, 49]⟩ 4 w0 a len cap b _ (by omega) (by omega) (by decide) (by decide) hlen HR.out HD.out.cur).mono ?_
                rintro e W3 ⟨tC, rfl, htC, hC, hG⟩
                replace HT := hid ((hG.block tb (lt_of_heap HT.out) (fun e => HTB.out (Option.some.inj e))).trans HT.out)
                replace HX := hid ((hG.block bx (lt_of_heap HX.out) (fun e => by have := HXB.out.1; have := HD.out.lt; have := Option.some.inj e; omega)).trans HX.out)
                replace HD := hid (HD.out.draw hC hG)
                clear hC hG
                go_wp2_with fail
                refine hK.out _ _ trivial (fun _ => ?_)
                clear hK K
                try simp only [Act.put, List.setIfInBounds_toArray, List.set_cons_zero, List.set_cons_succ]
                generalize W3 = W at *
                refine wpAnyH_ready (rs := [4]) (by kernel_rfl) (by simp) (AllReadyH.cons rfl (fun K hK => ?_) AllReadyH.nil)
                · obtain ⟨tA, hcA, htA⟩ := tabA_at _ tb x hx HT.out
                  go_simp
                  refine hK.out _ _ trivial (fun _ => ?_)
                  clear hK K
                  try simp only [Act.put, List.setIfInBounds_toArray, List.set_cons_zero, List.set_cons_succ]
                  clear hcA
                  refine wpAnyH_take (i := 7) (v := ?_) rfl (by kernel_rfl) (by kernel_rfl) (by kernel_rfl) (fun _ _ _ h => h) (Or.inl ⟨by rfl, ?_⟩) trivial ?_
                  rotate_left
                  · intro w hSw
                    go_simp
                    try (with_reducible rfl)
                  try simp only [Act.put, List.setIfInBounds_toArray, List.set_cons_zero, List.set_cons_succ]
                  refine wpAnyH_ready (rs := [9]) (by kernel_rfl) (by simp) (AllReadyH.cons rfl (fun K hK => ?_) AllReadyH.nil)
                  · obtain ⟨⟨e0, e1⟩, f0, f1⟩ := box2e HX.out
                    go_simp
                    refine hK.out _ _ trivial (fun _ => ?_)
                    clear hK K
                    try simp only [Act.put, List.setIfInBounds_toArray, List.set_cons_zero, List.set_cons_succ]
                    refine wpAnyH_done (by kernel_rfl) ?_ _
                    go_wp2_with fail
                    go_meet
                    exact ⟨bx, tA, tC, rfl, ⟨box_set2 HX.out, HXB.out, htA, Nat.le_of_lt htC, (HD.out.set HXB.out.1 HXB.out.2 0 _).set HXB.out.1 HXB.out.2 1 _⟩⟩
          · go_simp
            refine (cBelow 8 w0 a len cap b _ hlen HR.out HD.out.cur (by omega) (by omega)).mono ?_
            rintro e W2 ⟨x, rfl, hx, hC, hG⟩
            replace HX := hid ((hG.block bx (lt_of_heap HX.out) (fun e => by have := HXB.out.1; have := HD.out.lt; have := Option.some.inj e; omega)).trans HX.out)
            replace HD := hid (HD.out.draw hC hG)
            have hx8 : (x : Int) < 8 := by omega
            clear hC hG
            go_wp2_with fail
            refine hK.out _ _ trivial (fun _ => ?_)
            clear hK K
            try simp only [Act.put, List.setIfInBounds_toArray, List.set_cons_zero, List.set_cons_succ]
            generalize W2 = W at *
            refine wpAnyH_ready (rs := [0, 6]) (by kernel_rfl) (by simp) (AllReadyH.cons rfl (fun K hK => ?_) (AllReadyH.cons rfl (fun K hK => ?_) AllReadyH.nil))
            · have HTB := hid (show ¬ W.heap.size = b by have := HD.out.gr.size; have := HD.out.lt; omega)
              go_simp
              refine hK.out _ _ trivial (fun _ => ?_)
              clear hK K
              try simp only [Act.put, List.setIfInBounds_toArray, List.set_cons_zero, List.set_cons_succ]
              have HT := hid (heap_alloc_new W (.cells #[.string ⟨#[97]⟩, .string ⟨#[120]⟩, .string ⟨#[112, 58, 97]⟩, .string ⟨#[113, 58, 97]⟩, .string ⟨#[112, 58, 120]⟩, .string ⟨#[110, 115]⟩, .string ⟨#[110, 115, 58, 112]⟩, .string ⟨#[73, 100]⟩] 9))
              replace HD := hid (HD.out.alloc (.cells #[.string ⟨#[97]⟩, .string ⟨#[120]⟩, .string ⟨#[112, 58, 97]⟩, .string ⟨#[113, 58, 97]⟩, .string ⟨#[112, 58, 120]⟩, .string ⟨#[110, 115]⟩, .string ⟨#[110, 115, 58, 112]⟩, .string ⟨#[73, 100]⟩] 9))
              replace HX := hid (blk_alloc HX.out (.cells #[.string ⟨#[97]⟩, .string ⟨#[120]⟩, .string ⟨#[112, 58, 97]⟩, .string ⟨#[113, 58, 97]⟩, .string ⟨#[112, 58, 120]⟩, .string ⟨#[110, 115]⟩, .string ⟨#[110, 115, 58, 112]⟩, .string ⟨#[73, 100]⟩] 9))
              generalize W.heap.size = tb at *
              generalize W.alloc (.cells #[.string ⟨#[97]⟩, .string ⟨#[120]⟩, .string ⟨#[112, 58, 97]⟩, .string ⟨#[113, 58, 97]⟩, .string ⟨#[112, 58, 120]⟩, .string ⟨#[110, 115]⟩, .string ⟨#[110, 115, 58, 112]⟩, .string ⟨#[73, 100]⟩] 9) = W at *
              refine wpAnyH_take (i := 3) (v := ?_) rfl (by kernel_rfl) (by kernel_rfl) (by kernel_rfl) (fun _ _ _ h => h) (Or.inl ⟨by rfl, ?_⟩) trivial ?_
              rotate_left
              · intro w hSw
                go_simp
                try (with_reducible rfl)
              try simp only [Act.put, List.setIfInBounds_toArray, List.set_cons_zero, List.set_cons_succ]
              refine wpAnyH_ready (rs := [4, 6]) (by kernel_rfl) (by simp) (AllReadyH.cons rfl (fun K hK => ?_) (AllReadyH.cons rfl (fun K hK => ?_) AllReadyH.nil))
              · obtain ⟨tA, hcA, htA⟩ := tabA_at _ tb x hx HT.out
                go_simp
                refine hK.out _ _ trivial (fun _ => ?_)
                clear hK K
                try simp only [Act.put, List.setIfInBounds_toArray, List.set_cons_zero, List.set_cons_succ]
                clear hcA
                refine wpAnyH_ready (rs := [6]) (by kernel_rfl) (by simp) (AllReadyH.cons rfl (fun K hK => ?_) AllReadyH.nil)
                · go_simp
                  refine (cText ⟨#[97, 98, 60, 38, 34, 62, 32, 49]⟩ 4 w0 a len cap b _ (by omega) (by omega) (by decide) (by decide) hlen HR.out HD.out.cur).mono ?_
                  rintro e W3 ⟨tC, rfl, htC, hC, hG⟩
                  replace HT := hid ((hG.block tb (lt_of_heap HT.out) (fun e => HTB.out (Option.some.inj e))).trans HT.out)
                  replace HX := hid ((hG.block bx (lt_of_heap HX.out) (fun e => by have := HXB.out.1; have := HD.out.lt; have := Option.some.inj e; omega)).trans HX.out)
                  replace HD := hid (HD.out.draw hC hG)
                  clear hC hG
                  go_wp2_with fail
                  refine hK.out _ _ trivial (fun _ => ?_)
                  clear hK K
                  try simp only [Act.put, List.setIfInBounds_toArray, List.set_cons_zero, List.set_cons_succ]
                  generalize W3 = W at *
                  refine wpAnyH_take (i := 7) (v := ?_) rfl (by kernel_rfl) (by kernel_rfl) (by kernel_rfl) (fun _ _ _ h => h) (Or.inl ⟨by rfl, ?_⟩) trivial ?_
                  rotate_left
                  · intro w hSw
                    go_simp
                    try (with_reducible rfl)
                  try simp only [Act.put, List.setIfInBounds_toArray, List.set_cons_zero, List.set_cons_succ]
                  refine wpAnyH_ready (rs := [9]) (by kernel_rfl) (by simp) (AllReadyH.cons rfl (fun K hK => ?_) AllReadyH.nil)
                  · obtain ⟨⟨e0, e1⟩, f0, f1⟩ := box2e HX.out
                    go_simp
                    refine hK.out _ _ trivial (fun _ => ?_)
                    clear hK K
                    try simp only [Act.put, List.setIfInBounds_toArray, List.set_cons_zero, List.set_cons_succ]
                    refine wpAnyH_done (by kernel_rfl) ?_ _
                    go_wp2_with fail
                    go_meet
                    exact ⟨bx, tA, tC, rfl, ⟨box_set2 HX.out, HXB.out, htA, Nat.le_of_lt htC, (HD.out.set HXB.out.1 HXB.out.2 0 _).set HXB.out.1 HXB.out.2 1 _⟩⟩
              · go_simp
                refine (cText ⟨#[97, 98, 60, 38, 34, 62, 32, 49]⟩ 4 w0 a len cap b _ (by omega) (by omega) (by decide) (by decide) hlen HR.out HD.out.cur).mono ?_
                rintro e W3 ⟨tC, rfl, htC, hC, hG⟩
                replace HT := hid ((hG.block tb (lt_of_heap HT.out) (fun e => HTB.out (Option.some.inj e))).trans HT.out)
                replace HX := hid ((hG.block bx (lt_of_heap HX.out) (fun e => by have := HXB.out.1; have := HD.out.lt; have := Option.some.inj e; omega)).trans HX.out)
                replace HD := hid (HD.out.draw hC hG)
                clear hC hG
                go_wp2_with fail
                refine hK.out _ _ trivial (fun _ => ?_)
                clear hK K
                try simp only [Act.put, List.setIfInBounds_toArray, List.set_cons_zero, List.set_cons_succ]
                generalize W3 = W at *
                refine wpAnyH_ready (rs := [4]) (by kernel_rfl) (by simp) (AllReadyH.cons rfl (fun K hK => ?_) AllReadyH.nil)
                · obtain ⟨tA, hcA, htA⟩ := tabA_at _ tb x hx HT.out
                  go_simp
                  refine hK.out _ _ trivial (fun _ => ?_)
                  clear hK K
                  try simp only [Act.put, List.setIfInBounds_toArray, List.set_cons_zero, List.set_cons_succ]
                  clear hcA
                  refine wpAnyH_take (i := 7) (v := ?_) rfl (by kernel_rfl) (by kernel_rfl) (by kernel_rfl) (fun _ _ _ h => h) (Or.inl ⟨by rfl, ?_⟩) trivial ?_
                  rotate_left
                  · intro w hSw
                    go_simp
                    try (with_reducible rfl)
                  try simp only [Act.put, List.setIfInBounds_toArray, List.set_cons_zero, List.set_cons_succ]
                  refine wpAnyH_ready (rs := [9]) (by kernel_rfl) (by simp) (AllReadyH.cons rfl (fun K hK => ?_) AllReadyH.nil)
                  · obtain ⟨⟨e0, e1⟩, f0, f1⟩ := box2e HX.out
                    go_simp
                    refine hK.out _ _ trivial (fun _ => ?_)
                    clear hK K
                    try simp only [Act.put, List.setIfInBounds_toArray, List.set_cons_zero, List.set_cons_succ]
                    refine wpAnyH_done (by kernel_rfl) ?_ _
                    go_wp2_with fail
                    go_meet
                    exact ⟨bx, tA, tC, rfl, ⟨box_set2 HX.out, HXB.out, htA, Nat.le_of_lt htC, (HD.out.set HXB.out.1 HXB.out.2 0 _).set HXB.out.1 HXB.out.2 1 _⟩⟩
            · go_simp
              refine (cText ⟨#[97, 98, 60, 38, 34, 62, 32, 49]⟩ 4 w0 a len cap b _ (by omega) (by omega) (by decide) (by decide) hlen HR.out HD.out.cur).mono ?_
              rintro e W3 ⟨tC, rfl, htC, hC, hG⟩
              replace HX := hid ((hG.block bx (lt_of_heap HX.out) (fun e => by have := HXB.out.1; have := HD.out.lt; have := Option.some.inj e; omega)).trans HX.out)
              replace HD := hid (HD.out.draw hC hG)
              clear hC hG
              go_wp2_with fail
              refine hK.out _ _ trivial (fun _ => ?_)
              clear hK K
              try simp only [Act.put, List.setIfInBounds_toArray, List.set_cons_zero, List.set_cons_succ]
              generalize W3 = W at *
              refine wpAnyH_ready (rs := [0]) (by kernel_rfl) (by simp) (AllReadyH.cons rfl (fun K hK => ?_) AllReadyH.nil)
              · have HTB := hid (show ¬ W.heap.size = b by have := HD.out.gr.size; have := HD.out.lt; omega)
                go_simp
                refine hK.out _ _ trivial (fun _ => ?_)
                clear hK K
                try simp only [Act.put, List.setIfInBounds_toArray, List.set_cons_zero, List.set_cons_succ]
                have HT := hid (heap_alloc_new W (.cells #[.string ⟨#[97]⟩, .string ⟨#[120]⟩, .string ⟨#[112, 58, 97]⟩, .string ⟨#[113, 58, 97]⟩, .string ⟨#[112, 58, 120]⟩, .string ⟨#[110, 115]⟩, .string ⟨#[110, 115, 58, 112]⟩, .string ⟨#[73, 100]⟩] 9))
                replace HD := hid (HD.out.alloc (.cells #[.string ⟨#[97]⟩, .string ⟨#[120]⟩, .string ⟨#[112, 58, 97]⟩, .string ⟨#[113, 58, 97]⟩, .string ⟨#[112, 58, 120]⟩, .string ⟨#[110, 115]⟩, .string ⟨#[110, 115, 58, 112]⟩, .string ⟨#[73, 100]⟩] 9))
                replace HX := hid (blk_alloc HX.out (.cells #[.string ⟨#[97]⟩, .string ⟨#[120]⟩, .string ⟨#[112, 58, 97]⟩, .string ⟨#[113, 58, 97]⟩, .string ⟨#[112, 58, 120]⟩, .string ⟨#[110, 115]⟩, .string ⟨#[110, 115, 58, 112]⟩, .string ⟨#[73, 100]⟩] 9))
                generalize W.heap.size = tb at *
                generalize W.alloc (.cells #[.string ⟨#[97]⟩, .string ⟨#[120]⟩, .string ⟨#[112, 58, 97]⟩, .string ⟨#[113, 58, 97]⟩, .string ⟨#[112, 58, 120]⟩, .string ⟨#[110, 115]⟩, .string ⟨#[110, 115, 58, 112]⟩, .string ⟨#[73, 100]⟩] 9) = W at *
                refine wpAnyH_take (i := 3) (v := ?_) rfl (by kernel_rfl) (by kernel_rfl) (by kernel_rfl) (fun _ _ _ h => h) (Or.inl ⟨by rfl, ?_⟩) trivial ?_
                rotate_left
                · intro w hSw
                  go_simp
                  try (with_reducible rfl)
                try simp only [Act.put, List.setIfInBounds_toArray, List.set_cons_zero, List.set_cons_succ]
                refine wpAnyH_ready (rs := [4]) (by kernel_rfl) (by simp) (AllReadyH.cons rfl (fun K hK => ?_) AllReadyH.nil)
                · obtain ⟨tA, hcA, htA⟩ := tabA_at _ tb x hx HT.out
                  go_simp
                  refine hK.out _ _ trivial (fun _ => ?_)
                  clear hK K
                  try simp only [Act.put, List.setIfInBounds_toArray, List.set_cons_zero, List.set_cons_succ]
                  clear hcA
                  refine wpAnyH_take (i := 7) (v := ?_) rfl (by kernel_rfl) (by kernel_rfl) (by kernel_rfl) (fun _ _ _ h => h) (Or.inl ⟨by rfl, ?_⟩) trivial ?_
                  rotate_left
                  · intro w hSw
                    go_simp
                    try (with_reducible rfl)
                  try simp only [Act.put, List.setIfInBounds_toArray, List.set_cons_zero, List.set_cons_succ]
                  refine wpAnyH_ready (rs := [9]) (by kernel_rfl) (by simp) (AllReadyH.cons rfl (fun K hK => ?_) AllReadyH.nil)
                  · obtain ⟨⟨e0, e1⟩, f0, f1⟩ := box2e HX.out
                    go_simp
                    refine hK.out _ _ trivial (fun _ => ?_)
                    clear hK K
                    try simp only [Act.put, List.setIfInBounds_toArray, List.set_cons_zero, List.set_cons_succ]
                    refine wpAnyH_done (by kernel_rfl) ?_ _
                    go_wp2_with fail
                    go_meet
                    exact ⟨bx, tA, tC, rfl, ⟨box_set2 HX.out, HXB.out, htA, Nat.le_of_lt htC, (HD.out.set HXB.out.1 HXB.out.2 0 _).set HXB.out.1 HXB.out.2 1 _⟩⟩
      case rest =>
        obtain ⟨bx, tA, tC, rfl, HX⟩ := hcut
        obtain ⟨hm, hxb, hs1, hs2, hd⟩ := HX.out
        have HM := hid hm
        have HXB := hid hxb
        have HDc := hid hd
        clear HX hm hxb hd HD
        obtain ⟨⟨e0, e1⟩, f0, f1⟩ := box2e HM.out
        have HSA := hid hs1
        obtain ⟨B1, hB1⟩ : ∃ B : Bool, (tA.toList == [110, 115]) = B := ⟨_, rfl⟩
        obtain ⟨B2, hB2⟩ : ∃ B : Bool, (tA.toList == [110, 115, 58, 112]) = B := ⟨_, rfl⟩
        obtain ⟨B3, hB3⟩ : ∃ B : Bool, (tA.toList == [73, 100]) = B := ⟨_, rfl⟩
        go_upto_region 8 with fail
        go_cut [46] from 27 to 72 (fun x wv => x = .bool (B1 || B2) ∧ wv = wc)
        case first =>
          cases B1
          · go_wp2_with fail
            go_meet
            exact ⟨rfl, rfl⟩
          · go_wp2_with fail
            go_meet
            exact ⟨rfl, rfl⟩
        case rest =>
          obtain ⟨rfl, rfl⟩ := hcut
          obtain ⟨BB, hBB⟩ : ∃ B, (B1 || B2) = B := ⟨_, rfl⟩
          rw [hBB]
          clear hBB hB1 hB2
          go_upto_if 46 with fail
          go_cut [39] from 27 to 72 (fun x wv => ∃ y : ByteArray, Hid (wv.heap[bx]? = some (.cells #[.string tA, .string y] 115 (0, 0)) ∧ y.size ≤ 5 ∧ DSt w0 a len cap b w wv v l))
          case first =>
            have hbxb : ¬ bx = b := by have := HXB.out.1; have := HDc.out.lt; omega
            cases BB
            · go_wp2_with fail
              go_meet
              exact ⟨tC, HM.out, by omega, HDc.out⟩
            · go_wp2_with fail
              refine (cBelow 3 w0 a len cap b _ hlen HR.out (HDc.out.alloc _).cur (by omega) (by omega)).mono ?_
              rintro e w3 ⟨x, rfl, hx, hC3, hG3⟩
              have HD3 := hid ((HDc.out.alloc _).draw hC3 hG3)
              have HT3 := hid ((hG3.block wc.heap.size (by simp) (fun e => by have h4 : wc.heap.size = b := Option.some.inj e; have := HDc.out.gr.size; have := HDc.out.lt; omega)).trans (heap_alloc_new wc _))
              have HM3 := hid ((hG3.block bx (lt_of_heap (blk_alloc HM.out _)) (fun e => hbxb (Option.some.inj e))).trans (blk_alloc HM.out _))
              obtain ⟨t3, hc3, hs3⟩ := tab3_at w3 wc.heap.size x hx HT3.out
              have hx3 : (x : Int) < 3 := by omega
              clear e0 e1 f0 f1 hC3 hG3
              obtain ⟨⟨e0, e1⟩, f0, f1⟩ := box2e HM3.out
              go_wp2_with fail
              go_meet
              exact ⟨t3, box_set1 HM3.out, by omega, HD3.out.set HXB.out.1 HXB.out.2 1 _⟩
          case rest =>
            obtain ⟨y1, HX⟩ := hcut
            obtain ⟨hm, hs3, hd⟩ := HX.out
            have HM4 := hid hm
            have HD4 := hid hd
            clear HX hm hd HM HDc e0 e1 f0 f1
            obtain ⟨⟨e0, e1⟩, f0, f1⟩ := box2e HM4.out
            go_upto_if 55 with fail
            go_cut [39] from 27 to 72 (fun x wv => ∃ y : ByteArray, Hid (wv.heap[bx]? = some (.cells #[.string tA, .string y] 115 (0, 0)) ∧ y.size ≤ 5 ∧ DSt w0 a len cap b w wv v l))
            case first =>
              have hbxb : ¬ bx = b := by have := HXB.out.1; have := HD4.out.lt; omega
              cases B3
              · go_wp2_with fail
                go_meet
                exact ⟨y1, HM4.out, by omega, HD4.out⟩
              · go_wp2_with fail
                refine (cText ⟨#[48, 49, 50, 51, 52, 53]⟩ 3 w0 a len cap b _ (by omega) (by omega) (by decide) (by decide) hlen HR.out HD4.out.cur).mono ?_
                rintro e w3 ⟨t5, rfl, ht5, hC3, hG3⟩
                have HD3 := hid (HD4.out.draw hC3 hG3)
                have HM3 := hid ((hG3.block bx (lt_of_heap HM4.out) (fun e => hbxb (Option.some.inj e))).trans HM4.out)
                obtain ⟨S5, hS5⟩ : ∃ S, (⟨#[105]⟩ : ByteArray) ++ t5 = S := ⟨_, rfl⟩
                have hz5 : S5.size = 1 + t5.size := by rw [← hS5, ByteArray.size_append]; rfl
                have hov : ¬ 9223372036854775807 < (⟨#[105]⟩ : ByteArray).size + t5.size := by rw [show (⟨#[105]⟩ : ByteArray).size = 1 from rfl]; omega
                have hz6 : S5.size ≤ 5 := by omega
                clear e0 e1 f0 f1 hC3 hG3 hz5
                obtain ⟨⟨e0, e1⟩, f0, f1⟩ := box2e HM3.out
                go_wp2_with fail
                go_meet
                exact ⟨S5, box_set1 HM3.out, hz6, HD3.out.set HXB.out.1 HXB.out.2 1 _⟩
            case rest =>
              obtain ⟨y2, HX⟩ := hcut
              obtain ⟨hm, hs4, hd⟩ := HX.out
              have HM5 := hid hm
              have HD5 := hid hd
              clear HX hm hd HM4 HD4 e0 e1 f0 f1
              obtain ⟨⟨e0, e1⟩, f0, f1⟩ := box2e HM5.out
              obtain ⟨a5, c5, hv5, hoa⟩ := HD5.out.row
              have CV := hid (cValueInS a5 c5 l tA wc hoa.atRow (fun x hx => by have := HD5.out.sz x hx; omega) (by omega) (by have := HSA.out; omega))
              obtain ⟨VF, hVF⟩ : ∃ VF, valF l tA = VF := ⟨_, rfl⟩
              rw [hVF] at CV
              subst hv5
              obtain ⟨L, hL⟩ : ∃ L, l.length = L := ⟨_, rfl⟩
              have HL := hid hL
              rw [hL] at CV hlk HXB HD5 ⊢
              obtain ⟨k1, rfl⟩ : ∃ k1, k = k1 + 1 := ⟨k - 1, by omega⟩
              clear hVF hL hoa
              cases VF with
              | some z =>
                go_wp2_with fail
                refine CV.out.mono ?_
                rintro e w4 ⟨rfl, rfl⟩
                go_wp2_with fail
                go_roundw
                case rel => exact ⟨k1, l, by go_num, by omega, by rw [HL.out]; omega, HD5.out⟩
                case measure => first | (simp [intOf]; omega) | simp [intOf]
              | none =>
                obtain ⟨i0, hi, hz0, hz1, hz2⟩ := info_parts infoAtW
                have HOA := hid (HD5.out.own.alloc (.cells #[.string tA, .string y2] 115))
                have HDA := hid (HD5.out.alloc (.cells #[.string tA, .string y2] 115))
                have HNE := hid (two_cells wc (.string tA) (.string y2) 115)
                have HON := hid (show ∀ u ∈ [Value.string tA, .string y2], u.oneCell' = true by
                  intro u hu
                  simp at hu
                  rcases hu with rfl | rfl <;> rfl)
                have hwb := HD5.out.gr.size
                rw [HL.out] at HOA
                go_wp2_with fail
                refine CV.out.mono ?_
                rintro e w4 ⟨rfl, rfl⟩
                go_wp2_with (at_builtin; refine wpList_append_own _ rfl _ _ 32 rfl w.heap.size 115 i0 _ 2 32 Try.underlying32 hi hz0 hz1 hz2 rfl (by decide) _ _ _ rfl HOA.out ⟨w4.heap.size, 0, none⟩ 1 1 [.string tA, .string y2] rfl rfl ?c1 ?c2 ?c3 ?c4 ?c5 ?_)
                case c1 => exact HNE.out
                case c2 => exact HON.out
                case c3 => unfold maxLen; omega
                case c4 => omega
                case c5 => simp; omega
                intro v6 w6 hown6 hgrow6 _
                have HD6 := hid (HDA.out.join (m := [⟨tA, y2⟩]) (fun x hx => by
                  rw [List.mem_singleton] at hx
                  subst hx
                  exact ⟨by show tA.size ≤ 20; have := HSA.out; omega, by show y2.size ≤ 20; omega⟩) (by rw [HL.out]; exact hown6) hgrow6)
                obtain ⟨a6, c6, hv6⟩ := own_len hown6
                subst hv6
                clear hown6 hgrow6
                go_wp2_with fail
                go_roundw
                case rel => exact ⟨k1, l ++ [(⟨tA, y2⟩ : At)], by go_num, by omega, by rw [List.length_append, HL.out]; simp; omega, HD6.out⟩
                case measure => first | (simp [intOf]; omega) | simp [intOf]

end Go.Proofs.Ytkcmagfbacmllaa
