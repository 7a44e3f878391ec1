/- Contracts of the pile of numbers: taken off, laid on, down to. What lies on the pile while a tree is looked at (plain mathematics). Contracts of attrAt and ValueIn of the program. Contracts of attrsOk and TokenOk of the program. -/
import Derived.Test.YtemapjlogfffpaaM10
import Derived.Test.YtemapjlogfffpaaM1
import Derived.Test.YtemapjlogfffpaaM4
import Derived.Test.YtemapjlogfffpaaM5
namespace Go.Proofs.Ytemapjlogfffpaa
open Go.RowKit
set_option linter.unusedVariables false
set_option linter.unusedSimpArgs false

/-- What is not the parent. -/
def notP (P : Int) (x : Nat) : Bool := !decide ((x : Int) = P)

theorem dropWhile_at {α : Type} {p : α → Bool} : ∀ {l : List α} {i : Nat}, (∀ x ∈ l.take i, p x = true) → (∀ h : i < l.length, p l[i] = false) → l.dropWhile p = l.drop i
  | [], i, _, _ => by simp
  | x :: l, 0, _, h => by
    have := h (by simp)
    simp only [List.getElem_cons_zero] at this
    rw [List.dropWhile_cons, this]
    rfl
  | x :: l, i + 1, h1, h2 => by
    rw [List.dropWhile_cons, h1 x (by simp), List.drop_succ_cons]
    simp only [if_true]
    exact dropWhile_at (fun y hy => h1 y (by simp [hy])) (fun h => by have := h2 (by simpa using h); simpa using this)

theorem KeepB.below_of {p : Nat → Prop} {w w1 w' : World} (h : KeepB p w w1) (hb : Below w1.heap.size w1 w') : KeepB p w w' := h.trans (KeepB.of_below p hb)

/-- But for one cell. -/
def SameBut (o : Nat) (c c' : Array Value) : Prop := c'.size = c.size ∧ ∀ j, j ≠ o → c'[j]? = c[j]?

theorem SameBut.refl (o : Nat) (c : Array Value) : SameBut o c c := ⟨rfl, fun _ _ => rfl⟩

theorem SameBut.set {o : Nat} {c c' : Array Value} (h : SameBut o c c') (u : Value) : SameBut o c (c'.setIfInBounds o u) :=
  ⟨by rw [Array.size_setIfInBounds]; exact h.1, fun j hj => by rw [Array.getElem?_setIfInBounds_ne (fun e => hj e.symm)]; exact h.2 j hj⟩

def topI : List Nat → Int
  | [] => 0
  | x :: _ => (x : Int)

/-- What downTo knows. -/
structure DownI (w : World) (B g o : Nat) (cur : Array Value) (T : TypeId) (v0 : Value) (L : List Nat) (P : Int) (i : Nat) (wr : World) (v : Value) : Prop where
  no : ∀ x ∈ L.take i, notP P x = true
  pile : ∃ cur' v', PileI wr B g o cur' T v' (L.drop i) ∧ SameBut o cur cur' ∧ v'.ownBlock = v0.ownBlock
  own : wr.ownsRow w.heap.size 2 1 v i (intC (L.take i))
  keep : KeepB (fun k => k = g) w wr

end Go.Proofs.Ytemapjlogfffpaa

namespace Go.Proofs.Ytemapjlogfffpaa
set_option linter.unusedVariables false

def elB (ts : List Tk) (j : Nat) : Bool := match ts[j]? with | some t => !decide (t.name.size = 0) | none => false

theorem elB_iff {ts : List Tk} {j : Nat} : elB ts j = true ↔ elN ts j := by
  unfold elB elN
  by_cases h : j < ts.length
  · rw [List.getElem?_eq_getElem h]
    simp [h]
  · rw [List.getElem?_eq_none (by omega)]
    simp [h]

theorem elB_at {ts : List Tk} {j : Nat} (h : j < ts.length) : elB ts j = !decide (ts[j].name.size = 0) := by
  unfold elB
  rw [List.getElem?_eq_getElem h]

/-- What lies on the pile ahead of the i-th node, the top first. -/
def pileF (ts : List Tk) : Nat → List Nat
  | 0 => []
  | i + 1 => (if elB ts i = true then [i] else []) ++ (pileF ts i).dropWhile (notP (parI ts i))

theorem dw_filter {α : Type} {el p : α → Bool} (h : ∀ x, p x = false → el x = true) : ∀ l : List α, (l.filter el).dropWhile p = (l.dropWhile p).filter el
  | [] => rfl
  | x :: l => by
    cases e : el x
    · have hp : p x = true := by
        cases q : p x
        · rw [h x q] at e; cases e
        · rfl
      rw [List.filter_cons_of_neg (by rw [e]; decide), List.dropWhile_cons_of_pos hp]
      exact dw_filter h l
    · rw [List.filter_cons_of_pos e]
      cases q : p x
      · rw [List.dropWhile_cons_of_neg (by rw [q]; decide), List.dropWhile_cons_of_neg (by rw [q]; decide), List.filter_cons_of_pos e]
      · rw [List.dropWhile_cons_of_pos q, List.dropWhile_cons_of_pos q]
        exact dw_filter h l

theorem chain_tail (ts : List Tk) (i : Nat) : (chainF ts (i + 1)).tail = (chainF ts i).dropWhile (notP (parI ts i)) := rfl

theorem chain_tail_el {ts : List Tk} : ∀ i, (∀ j, j < i + 1 → UpOk ts j) → ∀ x ∈ (chainF ts (i + 1)).tail, elB ts x = true
  | 0, _ => fun x hx => by
    rw [chain_tail] at hx
    exact absurd hx (by simp [chainF])
  | i + 1, h => fun x hx => by
    have ih := chain_tail_el i (fun j hj => h j (by omega))
    rw [chain_tail] at hx
    have e : chainF ts (i + 1) = i :: (chainF ts (i + 1)).tail := rfl
    rw [e] at hx
    cases q : notP (parI ts (i + 1)) i
    · rw [List.dropWhile_cons_of_neg (by rw [q]; decide)] at hx
      rcases List.mem_cons.1 hx with rfl | hx
      · rcases h (x + 1) (by omega) with h0 | ⟨p, _, hp, he⟩
        · omega
        · unfold notP at q
          simp only [Bool.not_eq_false', decide_eq_true_eq] at q
          have : x = p := by omega
          subst this
          exact elB_iff.2 he
      · exact ih x hx
    · rw [List.dropWhile_cons_of_pos q] at hx
      exact ih x ((List.dropWhile_sublist _).mem hx)

theorem pile_is {ts : List Tk} : ∀ i, (∀ j, j < i → UpOk ts j) → pileF ts i = (chainF ts i).filter (elB ts)
  | 0, _ => rfl
  | i + 1, h => by
    have ih := pile_is i (fun j hj => h j (by omega))
    have e : chainF ts (i + 1) = i :: (chainF ts i).dropWhile (notP (parI ts i)) := rfl
    have key : ((chainF ts i).filter (elB ts)).dropWhile (notP (parI ts i)) = ((chainF ts i).dropWhile (notP (parI ts i))).filter (elB ts) := by
      rcases h i (by omega) with h0 | ⟨p, _, hp, he⟩
      · subst h0
        rfl
      · refine dw_filter (fun x hx => ?_) _
        unfold notP at hx
        simp only [Bool.not_eq_false', decide_eq_true_eq] at hx
        have : x = p := by omega
        subst this
        exact elB_iff.2 he
    rw [pileF, ih, key, e]
    cases q : elB ts i
    · rw [List.filter_cons_of_neg (by rw [q]; decide)]
      simp
    · rw [List.filter_cons_of_pos q]
      simp

/-- Where the node may stand there: what is left is what is around it. -/
theorem pile_ok {ts : List Tk} {i : Nat} (h : ∀ j, j < i → UpOk ts j) (hu : UpOk ts i) : (chainF ts (i + 1)).length = ((pileF ts i).dropWhile (notP (parI ts i))).length + 1 := by
  have h1 := pile_is (i + 1) (fun j hj => by rcases Nat.lt_or_eq_of_le (Nat.le_of_lt_succ hj) with h' | rfl; exact h j h'; exact hu)
  have h2 := chain_tail_el i (fun j hj => by rcases Nat.lt_or_eq_of_le (Nat.le_of_lt_succ hj) with h' | rfl; exact h j h'; exact hu)
  have e : chainF ts (i + 1) = i :: (chainF ts (i + 1)).tail := rfl
  rw [pileF, e] at h1
  rw [e, List.length_cons]
  congr 1
  have h3 : (chainF ts (i + 1)).tail.filter (elB ts) = (chainF ts (i + 1)).tail := List.filter_eq_self.2 h2
  cases q : elB ts i
  · rw [q, List.filter_cons_of_neg (by rw [q]; decide), h3] at h1
    have h1 : (pileF ts i).dropWhile (notP (parI ts i)) = (chainF ts (i + 1)).tail := h1
    rw [h1]
  · rw [q, List.filter_cons_of_pos q, h3] at h1
    have h1 : i :: (pileF ts i).dropWhile (notP (parI ts i)) = i :: (chainF ts (i + 1)).tail := h1
    injection h1 with _ h1
    rw [h1]

theorem dw_nil {α : Type} {p : α → Bool} : ∀ {l : List α}, l.dropWhile p = [] → ∀ x ∈ l, p x = true
  | [], _, x, hx => absurd hx List.not_mem_nil
  | y :: l, h, x, hx => by
    cases q : p y
    · rw [List.dropWhile_cons_of_neg (by rw [q]; decide)] at h
      cases h
    · rw [List.dropWhile_cons_of_pos q] at h
      rcases List.mem_cons.1 hx with rfl | hx
      · exact q
      · exact dw_nil h x hx

/-- It may stand there just if something is left. -/
theorem pile_up {ts : List Tk} {i : Nat} (h : ∀ j, j < i → UpOk ts j) (hi : 0 < i) : UpOk ts i ↔ 0 < ((pileF ts i).dropWhile (notP (parI ts i))).length := by
  rw [pile_is i h]
  constructor
  · rintro (h0 | ⟨p, hp, e, he⟩)
    · omega
    · rw [List.length_pos_iff]
      intro e0
      have := dw_nil e0 p (List.mem_filter.2 ⟨hp, elB_iff.2 he⟩)
      unfold notP at this
      simp only [Bool.not_eq_true', decide_eq_false_iff_not] at this
      exact this e
  · intro hl
    rw [List.length_pos_iff] at hl
    have h1 := List.head_dropWhile_not (notP (parI ts i)) hl
    have h2 := (List.dropWhile_sublist (notP (parI ts i))).mem (List.head_mem hl)
    obtain ⟨h3, h4⟩ := List.mem_filter.1 h2
    refine .inr ⟨_, h3, ?_, elB_iff.1 h4⟩
    generalize (List.dropWhile (notP (parI ts i)) (List.filter (elB ts) (chainF ts i))).head hl = z at h1 ⊢
    unfold notP at h1
    simpa using h1

theorem dw_len {α : Type} (p : α → Bool) (l : List α) : (l.dropWhile p).length ≤ l.length := (List.dropWhile_sublist p).length_le

theorem pile_len (ts : List Tk) : ∀ i, (pileF ts i).length ≤ i
  | 0 => Nat.le_refl _
  | i + 1 => by
    have := pile_len ts i
    have h2 := dw_len (notP (parI ts i)) (pileF ts i)
    rw [pileF, List.length_append]
    split <;> simp <;> omega

/-- The token that a node begins with. -/
def tokOfN (t : Tk) : Tk := if t.name.size = 0 then ⟨3, ⟨#[]⟩, t.attrs, t.text⟩ else ⟨1, t.name, t.attrs, t.text⟩

theorem tokOfN_B (t : Tk) : tokB (tokOfN t) = nodeB t := by
  unfold tokOfN nodeB
  split
  · unfold tokB
    rw [if_neg (show ¬ (3 : Int) = 1 by decide), if_neg (show ¬ (3 : Int) = 2 by decide), if_pos rfl, show decide ((⟨#[]⟩ : ByteArray).size = 0) = true from rfl, Bool.true_and]
  · unfold tokB
    rw [if_pos rfl]

theorem tokOfN_attrs (t : Tk) : (tokOfN t).attrs = t.attrs := by unfold tokOfN; split <;> rfl

theorem tokOfN_sz {n : Nat} {t : Tk} (h : TkSz n t) : TkSz n (tokOfN t) := by
  obtain ⟨h1, h2, h3, h4⟩ := h
  unfold tokOfN
  split
  · exact ⟨Nat.zero_le _, h2, h3, h4⟩
  · exact ⟨h1, h2, h3, h4⟩

noncomputable def twinB (ts : List Tk) (i : Nat) : Bool := open Classical in decide (TwinAt ts i)

theorem twinB_t {ts : List Tk} {i : Nat} (h : TwinAt ts i) : twinB ts i = true := by unfold twinB; simp [h]

theorem twinB_f {ts : List Tk} {i : Nat} (h : ¬ TwinAt ts i) : twinB ts i = false := by unfold twinB; simp [h]

end Go.Proofs.Ytemapjlogfffpaa

namespace Go.Proofs.Ytemapjlogfffpaa
open Go.RowKit
set_option linter.unusedVariables false
set_option linter.unusedSimpArgs false

/-- Where the first with this name stands, or -1. -/
def IdxIs (l : List At) (name : ByteArray) (r : Int) : Prop :=
  (r = -1 ∧ ∀ x ∈ l, ¬ x.name = name) ∨ ∃ i : Nat, ∃ h : i < l.length, r = (i : Int) ∧ l[i].name = name ∧ ∀ x ∈ l.take i, ¬ x.name = name

theorem cell_alloc {w : World} {p : Addr} {v : Value} (h : w.cell? p = some v) (hp : p.block < w.heap.size) (o : Obj) : (w.alloc o).cell? p = some v :=
  (((Below.refl w.heap.size w).alloc (Nat.le_refl _) o).cell hp).trans h

set_option maxHeartbeats 1000000 in
theorem cAttrAt1 (n v name : ByteArray) (b o : Nat) (w : World) (hp : b < w.heap.size) (hc : w.cell? ⟨b, o, none⟩ = some (.string name)) (hn : n.size ≤ 1048576) (hm : name.size ≤ 1048576) :
    Calls Try.prog 37 #[.agg #[.string n, .string v], .pointer (some ⟨b, o, none⟩)] w fun e w' => e = .returned (.bool (decide (n = name))) ∧ Below w.heap.size w w' := by
  have HB0 := hid ((Below.refl w.heap.size w).alloc (Nat.le_refl _) (.cells #[.string n, .string v] 37))
  have c1 := cell_alloc hc hp (.cells #[.string n, .string v] 37)
  have hd := str_beq n name
  generalize decide (n = name) = D at hd ⊢
  clear hc
  go_enter Try.func37, Try.ntmps37
  go_wp2
  go_ret
  exact ⟨rfl, HB0.out⟩

set_option maxHeartbeats 1000000 in
theorem cIndexFunc (a : Option Addr) (cap : Nat) (l : List At) (name : ByteArray) (b0 o0 : Nat) (w : World) (hR : AtRow w a l) (hz : AtSz 1048576 l) (hn : l.length ≤ 1048576) (hm : name.size ≤ 1048576)
    (hp : b0 < w.heap.size) (hc : w.cell? ⟨b0, o0, none⟩ = some (.string name)) :
    Calls Try.prog 36 #[.slice a l.length cap, .func (.func 37) #[] #[.pointer (some ⟨b0, o0, none⟩)]] w fun e w' => ∃ r : Int, e = .returned (.int .i64 r) ∧ IdxIs l name r ∧ Below w.heap.size w w' := by
  have HR := hid hR
  have HZ := hid hz
  have HC := hid hc
  have HP := hid hp
  clear hR hz hc hp
  obtain ⟨n, hnn⟩ : ∃ n, l.length = n := ⟨_, rfl⟩
  have HN := hid hnn
  rw [hnn] at hn ⊢
  clear hnn
  go_enter Try.func36, Try.ntmps36
  go_wp2
  go_loopw [8] (fun k wr => ∃ i : Nat, k = .int .i64 (i : Int) ∧ i ≤ n ∧ Hid (∀ x ∈ l.take i, ¬ x.name = name) ∧ Hid (Below w.heap.size w wr)) (fun k _ => n - (intOf k).toNat)
  case atStart => exact ⟨0, rfl, Nat.zero_le _, fun x hx => by simp at hx, Below.refl _ _⟩
  case round =>
    obtain ⟨i, rfl, hi, HO, HB⟩ := hrel
    by_cases hlt : i < n
    · have his : i < l.length := by rw [HN.out]; exact hlt
      obtain ⟨b, o, rfl, hb, c1, c2⟩ := HR.out.below HB.out i his
      have hin : (i : Int) < (n : Int) := by omega
      have HT := hid (take_snocN his)
      have z1 := (HZ.out _ (List.getElem_mem his)).1
      have HS := hid HB.out.size
      have HCr := hid ((HB.out.cell (p := ⟨b0, o0, none⟩) HP.out).trans HC.out)
      have C := hid (cAttrAt1 l[i].name l[i].value name b0 o0 wr (Nat.lt_of_lt_of_le HP.out HS.out) HCr.out z1 hm)
      by_cases hq : l[i].name = name
      · have HI := hid (show IdxIs l name (i : Int) from .inr ⟨i, his, rfl, hq, HO.out⟩)
        have e0 : decide (l[i].name = name) = true := decide_eq_true hq
        rw [e0] at C
        generalize l[i].name = x at *
        generalize l[i].value = y at *
        clear hq e0
        go_wp2_with fail
        refine C.out.mono ?_
        rintro e w1 ⟨rfl, hb1⟩
        have HB1 := hid (bb HB.out hb1)
        go_wp2
        go_ret
        exact ⟨_, rfl, HI.out, HB1.out⟩
      · have HO2 := hid (show ∀ x ∈ l.take (i + 1), ¬ x.name = name by
          rw [HT.out]
          intro x hx
          rcases List.mem_append.1 hx with h | h
          · exact HO.out x h
          · rw [List.mem_singleton] at h
            subst h
            exact hq)
        have e0 : decide (l[i].name = name) = false := decide_eq_false hq
        rw [e0] at C
        generalize l[i].name = x at *
        generalize l[i].value = y at *
        clear hq e0
        go_wp2_with fail
        refine C.out.mono ?_
        rintro e w1 ⟨rfl, hb1⟩
        have HB1 := hid (bb HB.out hb1)
        go_wp2
        go_roundw
        case rel => exact ⟨i + 1, by go_num, by omega, HO2.out, HB1.out⟩
        case measure => simp [intOf]; omega
    · have hie : i = n := by omega
      subst hie
      have h1 := HO.out
      rw [List.take_of_length_le (by rw [HN.out]; exact Nat.le_refl _)] at h1
      have HI := hid (show IdxIs l name (-1) from .inl ⟨rfl, h1⟩)
      clear h1
      go_wp2
      go_ret
      exact ⟨_, rfl, HI.out, HB.out⟩

set_option maxHeartbeats 1000000 in
theorem cAttrAt (a : Option Addr) (cap : Nat) (l : List At) (name : ByteArray) (w : World) (hR : AtRow w a l) (hz : AtSz 1048576 l) (hn : l.length ≤ 1048576) (hm : name.size ≤ 1048576) :
    Calls Try.prog 30 #[.slice a l.length cap, .string name] w fun e w' => ∃ r : Int, e = .returned (.int .i64 r) ∧ IdxIs l name r ∧ Below w.heap.size w w' := by
  have hmf : ∀ (fn : Fn) (first cap : Array Value) (w : World), (Instr.makeFunc fn first cap).run Try.prog w = .ok (.func fn first cap) w := fun _ _ _ _ => rfl
  have HB0 := hid ((Below.refl w.heap.size w).alloc (Nat.le_refl _) (.cells #[.string name] 9))
  have C := hid (cIndexFunc a cap l name w.heap.size 0 (w.alloc (.cells #[.string name] 9)) (hR.below HB0.out) hz hn hm (by simp) (by simp [go_sem]))
  clear hR hz
  generalize l.length = n at *
  go_enter Try.func30, Try.ntmps30
  go_wp2_with fail
  refine C.out.mono ?_
  rintro e w1 ⟨r, rfl, hr, hb1⟩
  have HI := hid hr
  have HB1 := hid (bb HB0.out hb1)
  clear hr hb1
  go_wp2
  go_ret
  exact ⟨_, rfl, HI.out, HB1.out⟩

end Go.Proofs.Ytemapjlogfffpaa

namespace Go.Proofs.Ytemapjlogfffpaa
open Go.RowKit
set_option linter.unusedVariables false
set_option linter.unusedSimpArgs false

theorem box2c {w : World} {g : Nat} {x y : Value} {T : TypeId} (h : w.heap[g]? = some (.cells #[x, y] T (0, 0))) : w.cell? ⟨g, 0, none⟩ = some x ∧ w.cell? ⟨g, 1, none⟩ = some y :=
  ⟨by rw [Lib.cell_of_heap h]; rfl, by rw [Lib.cell_of_heap h]; rfl⟩

end Go.Proofs.Ytemapjlogfffpaa
