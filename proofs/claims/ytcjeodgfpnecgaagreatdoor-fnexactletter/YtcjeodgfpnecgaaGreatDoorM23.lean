/- What lies on the pile while a tree is looked at (plain mathematics). Contracts of attrAt and ValueIn of the program. Contracts of attrsOk and TokenOk of the program. -/
import Derived.Test.YtcjeodgfpnecgaaGreatDoorM22
import Derived.Test.YtcjeodgfpnecgaaGreatDoorM1
import Derived.Test.YtcjeodgfpnecgaaGreatDoorM5
import Derived.Test.YtcjeodgfpnecgaaGreatDoorM7
namespace Go.Proofs.YtcjeodgfpnecgaaGreatDoor
set_option linter.unusedVariables false

def elB (ts : List Tk) (j : Nat) : Bool := match ts[j]? with | some t => !decide (t.name.size = 0) | none => false

theorem elB_iff {ts : List Tk} {j : Nat} : elB ts j = true ↔ elN ts j := by
  unfold elB elN
  by_cases h : j < ts.length
  · rw [List.getElem?_eq_getElem h]
    simp [h]
  · rw [List.getElem?_eq_none (by omega)]
    simp [h]

theorem elB_at {ts : List Tk} {j : Nat} (h : j < ts.length) : elB ts j = !decide (ts[j].name.size = 0) := by
  unfold elB
  rw [List.getElem?_eq_getElem h]

/-- What lies on the pile ahead of the i-th node, the top first. -/
def pileF (ts : List Tk) : Nat → List Nat
  | 0 => []
  | i + 1 => (if elB ts i = true then [i] else []) ++ (pileF ts i).dropWhile (notP (parI ts i))

theorem dw_filter {α : Type} {el p : α → Bool} (h : ∀ x, p x = false → el x = true) : ∀ l : List α, (l.filter el).dropWhile p = (l.dropWhile p).filter el
  | [] => rfl
  | x :: l => by
    cases e : el x
    · have hp : p x = true := by
        cases q : p x
        · rw [h x q] at e; cases e
        · rfl
      rw [List.filter_cons_of_neg (by rw [e]; decide), List.dropWhile_cons_of_pos hp]
      exact dw_filter h l
    · rw [List.filter_cons_of_pos e]
      cases q : p x
      · rw [List.dropWhile_cons_of_neg (by rw [q]; decide), List.dropWhile_cons_of_neg (by rw [q]; decide), List.filter_cons_of_pos e]
      · rw [List.dropWhile_cons_of_pos q, List.dropWhile_cons_of_pos q]
        exact dw_filter h l

theorem chain_tail (ts : List Tk) (i : Nat) : (chainF ts (i + 1)).tail = (chainF ts i).dropWhile (notP (parI ts i)) := rfl

theorem chain_tail_el {ts : List Tk} : ∀ i, (∀ j, j < i + 1 → UpOk ts j) → ∀ x ∈ (chainF ts (i + 1)).tail, elB ts x = true
  | 0, _ => fun x hx => by
    rw [chain_tail] at hx
    exact absurd hx (by simp [chainF])
  | i + 1, h => fun x hx => by
    have ih := chain_tail_el i (fun j hj => h j (by omega))
    rw [chain_tail] at hx
    have e : chainF ts (i + 1) = i :: (chainF ts (i + 1)).tail := rfl
    rw [e] at hx
    cases q : notP (parI ts (i + 1)) i
    · rw [List.dropWhile_cons_of_neg (by rw [q]; decide)] at hx
      rcases List.mem_cons.1 hx with rfl | hx
      · rcases h (x + 1) (by omega) with h0 | ⟨p, _, hp, he⟩
        · omega
        · unfold notP at q
          simp only [Bool.not_eq_false', decide_eq_true_eq] at q
          have : x = p := by omega
          subst this
          exact elB_iff.2 he
      · exact ih x hx
    · rw [List.dropWhile_cons_of_pos q] at hx
      exact ih x ((List.dropWhile_sublist _).mem hx)

theorem pile_is {ts : List Tk} : ∀ i, (∀ j, j < i → UpOk ts j) → pileF ts i = (chainF ts i).filter (elB ts)
  | 0, _ => rfl
  | i + 1, h => by
    have ih := pile_is i (fun j hj => h j (by omega))
    have e : chainF ts (i + 1) = i :: (chainF ts i).dropWhile (notP (parI ts i)) := rfl
    have key : ((chainF ts i).filter (elB ts)).dropWhile (notP (parI ts i)) = ((chainF ts i).dropWhile (notP (parI ts i))).filter (elB ts) := by
      rcases h i (by omega) with h0 | ⟨p, _, hp, he⟩
      · subst h0
        rfl
      · refine dw_filter (fun x hx => ?_) _
        unfold notP at hx
        simp only [Bool.not_eq_false', decide_eq_true_eq] at hx
        have : x = p := by omega
        subst this
        exact elB_iff.2 he
    rw [pileF, ih, key, e]
    cases q : elB ts i
    · rw [List.filter_cons_of_neg (by rw [q]; decide)]
      simp
    · rw [List.filter_cons_of_pos q]
      simp

/-- Where the node may stand there: what is left is what is around it. -/
theorem pile_ok {ts : List Tk} {i : Nat} (h : ∀ j, j < i → UpOk ts j) (hu : UpOk ts i) : (chainF ts (i + 1)).length = ((pileF ts i).dropWhile (notP (parI ts i))).length + 1 := by
  have h1 := pile_is (i + 1) (fun j hj => by rcases Nat.lt_or_eq_of_le (Nat.le_of_lt_succ hj) with h' | rfl; exact h j h'; exact hu)
  have h2 := chain_tail_el i (fun j hj => by rcases Nat.lt_or_eq_of_le (Nat.le_of_lt_succ hj) with h' | rfl; exact h j h'; exact hu)
  have e : chainF ts (i + 1) = i :: (chainF ts (i + 1)).tail := rfl
  rw [pileF, e] at h1
  rw [e, List.length_cons]
  congr 1
  have h3 : (chainF ts (i + 1)).tail.filter (elB ts) = (chainF ts (i + 1)).tail := List.filter_eq_self.2 h2
  cases q : elB ts i
  · rw [q, List.filter_cons_of_neg (by rw [q]; decide), h3] at h1
    have h1 : (pileF ts i).dropWhile (notP (parI ts i)) = (chainF ts (i + 1)).tail := h1
    rw [h1]
  · rw [q, List.filter_cons_of_pos q, h3] at h1
    have h1 : i :: (pileF ts i).dropWhile (notP (parI ts i)) = i :: (chainF ts (i + 1)).tail := h1
    injection h1 with _ h1
    rw [h1]

theorem dw_nil {α : Type} {p : α → Bool} : ∀ {l : List α}, l.dropWhile p = [] → ∀ x ∈ l, p x = true
  | [], _, x, hx => absurd hx List.not_mem_nil
  | y :: l, h, x, hx => by
    cases q : p y
    · rw [List.dropWhile_cons_of_neg (by rw [q]; decide)] at h
      cases h
    · rw [List.dropWhile_cons_of_pos q] at h
      rcases List.mem_cons.1 hx with rfl | hx
      · exact q
      · exact dw_nil h x hx

/-- It may stand there just if something is left. -/
theorem pile_up {ts : List Tk} {i : Nat} (h : ∀ j, j < i → UpOk ts j) (hi : 0 < i) : UpOk ts i ↔ 0 < ((pileF ts i).dropWhile (notP (parI ts i))).length := by
  rw [pile_is i h]
  constructor
  · rintro (h0 | ⟨p, hp, e, he⟩)
    · omega
    · rw [List.length_pos_iff]
      intro e0
      have := dw_nil e0 p (List.mem_filter.2 ⟨hp, elB_iff.2 he⟩)
      unfold notP at this
      simp only [Bool.not_eq_true', decide_eq_false_iff_not] at this
      exact this e
  · intro hl
    rw [List.length_pos_iff] at hl
    have h1 := List.head_dropWhile_not (notP (parI ts i)) hl
    have h2 := (List.dropWhile_sublist (notP (parI ts i))).mem (List.head_mem hl)
    obtain ⟨h3, h4⟩ := List.mem_filter.1 h2
    refine .inr ⟨_, h3, ?_, elB_iff.1 h4⟩
    generalize (List.dropWhile (notP (parI ts i)) (List.filter (elB ts) (chainF ts i))).head hl = z at h1 ⊢
    unfold notP at h1
    simpa using h1

theorem dw_len {α : Type} (p : α → Bool) (l : List α) : (l.dropWhile p).length ≤ l.length := (List.dropWhile_sublist p).length_le

theorem pile_len (ts : List Tk) : ∀ i, (pileF ts i).length ≤ i
  | 0 => Nat.le_refl _
  | i + 1 => by
    have := pile_len ts i
    have h2 := dw_len (notP (parI ts i)) (pileF ts i)
    rw [pileF, List.length_append]
    split <;> simp <;> omega

/-- The token that a node begins with. -/
def tokOfN (t : Tk) : Tk := if t.name.size = 0 then ⟨3, ⟨#[]⟩, t.attrs, t.text⟩ else ⟨1, t.name, t.attrs, t.text⟩

theorem tokOfN_B (t : Tk) : tokB (tokOfN t) = nodeB t := by
  unfold tokOfN nodeB
  split
  · unfold tokB
    rw [if_neg (show ¬ (3 : Int) = 1 by decide), if_neg (show ¬ (3 : Int) = 2 by decide), if_pos rfl, show decide ((⟨#[]⟩ : ByteArray).size = 0) = true from rfl, Bool.true_and]
  · unfold tokB
    rw [if_pos rfl]

theorem tokOfN_attrs (t : Tk) : (tokOfN t).attrs = t.attrs := by unfold tokOfN; split <;> rfl

theorem tokOfN_sz {n : Nat} {t : Tk} (h : TkSz n t) : TkSz n (tokOfN t) := by
  obtain ⟨h1, h2, h3, h4⟩ := h
  unfold tokOfN
  split
  · exact ⟨Nat.zero_le _, h2, h3, h4⟩
  · exact ⟨h1, h2, h3, h4⟩

noncomputable def twinB (ts : List Tk) (i : Nat) : Bool := open Classical in decide (TwinAt ts i)

theorem twinB_t {ts : List Tk} {i : Nat} (h : TwinAt ts i) : twinB ts i = true := by unfold twinB; simp [h]

theorem twinB_f {ts : List Tk} {i : Nat} (h : ¬ TwinAt ts i) : twinB ts i = false := by unfold twinB; simp [h]

end Go.Proofs.YtcjeodgfpnecgaaGreatDoor

namespace Go.Proofs.YtcjeodgfpnecgaaGreatDoor
open Go.RowKit
set_option linter.unusedVariables false
set_option linter.unusedSimpArgs false

/-- Where the first with this name stands, or -1. -/
def IdxIs (l : List At) (name : ByteArray) (r : Int) : Prop :=
  (r = -1 ∧ ∀ x ∈ l, ¬ x.name = name) ∨ ∃ i : Nat, ∃ h : i < l.length, r = (i : Int) ∧ l[i].name = name ∧ ∀ x ∈ l.take i, ¬ x.name = name

theorem cell_alloc {w : World} {p : Addr} {v : Value} (h : w.cell? p = some v) (hp : p.block < w.heap.size) (o : Obj) : (w.alloc o).cell? p = some v :=
  (((Below.refl w.heap.size w).alloc (Nat.le_refl _) o).cell hp).trans h

set_option maxHeartbeats 1000000 in
theorem cAttrAt1 (n v name : ByteArray) (b o : Nat) (w : World) (hp : b < w.heap.size) (hc : w.cell? ⟨b, o, none⟩ = some (.string name)) (hn : n.size ≤ 1048576) (hm : name.size ≤ 1048576) :
    Calls Tryz.prog 111 #[.agg #[.string n, .string v], .pointer (some ⟨b, o, none⟩)] w fun e w' => e = .returned (.bool (decide (n = name))) ∧ Below w.heap.size w w' := by
  have HB0 := hid ((Below.refl w.heap.size w).alloc (Nat.le_refl _) (.cells #[.string n, .string v] 58))
  have c1 := cell_alloc hc hp (.cells #[.string n, .string v] 58)
  have hd := str_beq n name
  generalize decide (n = name) = D at hd ⊢
  clear hc
  go_enter Tryz.func111, Tryz.ntmps111
  go_wp2
  go_ret
  exact ⟨rfl, HB0.out⟩

set_option maxHeartbeats 1000000 in
theorem cIndexFunc (a : Option Addr) (cap : Nat) (l : List At) (name : ByteArray) (b0 o0 : Nat) (w : World) (hR : AtRow w a l) (hz : AtSz 1048576 l) (hn : l.length ≤ 1048576) (hm : name.size ≤ 1048576)
    (hp : b0 < w.heap.size) (hc : w.cell? ⟨b0, o0, none⟩ = some (.string name)) :
    Calls Tryz.prog 110 #[.slice a l.length cap, .func (.func 111) #[] #[.pointer (some ⟨b0, o0, none⟩)]] w fun e w' => ∃ r : Int, e = .returned (.int .i64 r) ∧ IdxIs l name r ∧ Below w.heap.size w w' := by
  have HR := hid hR
  have HZ := hid hz
  have HC := hid hc
  have HP := hid hp
  clear hR hz hc hp
  obtain ⟨n, hnn⟩ : ∃ n, l.length = n := ⟨_, rfl⟩
  have HN := hid hnn
  rw [hnn] at hn ⊢
  clear hnn
  go_enter Tryz.func110, Tryz.ntmps110
  go_wp2
  go_loopw [8] (fun k wr => ∃ i : Nat, k = .int .i64 (i : Int) ∧ i ≤ n ∧ Hid (∀ x ∈ l.take i, ¬ x.name = name) ∧ Hid (Below w.heap.size w wr)) (fun k _ => n - (intOf k).toNat)
  case atStart => exact ⟨0, rfl, Nat.zero_le _, fun x hx => by simp at hx, Below.refl _ _⟩
  case round =>
    obtain ⟨i, rfl, hi, HO, HB⟩ := hrel
    by_cases hlt : i < n
    · have his : i < l.length := by rw [HN.out]; exact hlt
      obtain ⟨b, o, rfl, hb, c1, c2⟩ := HR.out.below HB.out i his
      have hin : (i : Int) < (n : Int) := by omega
      have HT := hid (take_snocN his)
      have z1 := (HZ.out _ (List.getElem_mem his)).1
      have HS := hid HB.out.size
      have HCr := hid ((HB.out.cell (p := ⟨b0, o0, none⟩) HP.out).trans HC.out)
      have C := hid (cAttrAt1 l[i].name l[i].value name b0 o0 wr (Nat.lt_of_lt_of_le HP.out HS.out) HCr.out z1 hm)
      by_cases hq : l[i].name = name
      · have HI := hid (show IdxIs l name (i : Int) from .inr ⟨i, his, rfl, hq, HO.out⟩)
        have e0 : decide (l[i].name = name) = true := decide_eq_true hq
        rw [e0] at C
        generalize l[i].name = x at *
        generalize l[i].value = y at *
        clear hq e0
        go_wp2_with fail
        refine C.out.mono ?_
        rintro e w1 ⟨rfl, hb1⟩
        have HB1 := hid (bb HB.out hb1)
        go_wp2
        go_ret
        exact ⟨_, rfl, HI.out, HB1.out⟩
      · have HO2 := hid (show ∀ x ∈ l.take (i + 1), ¬ x.name = name by
          rw [HT.out]
          intro x hx
          rcases List.mem_append.1 hx with h | h
          · exact HO.out x h
          · rw [List.mem_singleton] at h
            subst h
            exact hq)
        have e0 : decide (l[i].name = name) = false := decide_eq_false hq
        rw [e0] at C
        generalize l[i].name = x at *
        generalize l[i].value = y at *
        clear hq e0
        go_wp2_with fail
        refine C.out.mono ?_
        rintro e w1 ⟨rfl, hb1⟩
        have HB1 := hid (bb HB.out hb1)
        go_wp2
        go_roundw
        case rel => exact ⟨i + 1, by go_num, by omega, HO2.out, HB1.out⟩
        case measure => simp [intOf]; omega
    · have hie : i = n := by omega
      subst hie
      have h1 := HO.out
      rw [List.take_of_length_le (by rw [HN.out]; exact Nat.le_refl _)] at h1
      have HI := hid (show IdxIs l name (-1) from .inl ⟨rfl, h1⟩)
      clear h1
      go_wp2
      go_ret
      exact ⟨_, rfl, HI.out, HB.out⟩

set_option maxHeartbeats 1000000 in
theorem cAttrAt (a : Option Addr) (cap : Nat) (l : List At) (name : ByteArray) (w : World) (hR : AtRow w a l) (hz : AtSz 1048576 l) (hn : l.length ≤ 1048576) (hm : name.size ≤ 1048576) :
    Calls Tryz.prog 98 #[.slice a l.length cap, .string name] w fun e w' => ∃ r : Int, e = .returned (.int .i64 r) ∧ IdxIs l name r ∧ Below w.heap.size w w' := by
  have hmf : ∀ (fn : Fn) (first cap : Array Value) (w : World), (Instr.makeFunc fn first cap).run Tryz.prog w = .ok (.func fn first cap) w := fun _ _ _ _ => rfl
  have HB0 := hid ((Below.refl w.heap.size w).alloc (Nat.le_refl _) (.cells #[.string name] 9))
  have C := hid (cIndexFunc a cap l name w.heap.size 0 (w.alloc (.cells #[.string name] 9)) (hR.below HB0.out) hz hn hm (by simp) (by simp [go_sem]))
  clear hR hz
  generalize l.length = n at *
  go_enter Tryz.func98, Tryz.ntmps98
  go_wp2_with fail
  refine C.out.mono ?_
  rintro e w1 ⟨r, rfl, hr, hb1⟩
  have HI := hid hr
  have HB1 := hid (bb HB0.out hb1)
  clear hr hb1
  go_wp2
  go_ret
  exact ⟨_, rfl, HI.out, HB1.out⟩

set_option maxHeartbeats 1000000 in
theorem cValueInI (a : Option Addr) (cap : Nat) (l : List At) (name : ByteArray) (w : World) (hR : AtRow w a l) (hz : AtSz 1048576 l) (hn : l.length ≤ 1048576) (hm : name.size ≤ 1048576) :
    Calls Tryz.prog 103 #[.slice a l.length cap, .string name] w fun e w' => e = .returned (.tuple #[.string ((valF l name).getD ByteArray.empty), .bool (valF l name).isSome]) ∧ Below w.heap.size w w' := by
  have C := hid (cAttrAt a cap l name w hR hz hn hm)
  have HR := hid hR
  have HZ := hid hz
  obtain ⟨V, hV⟩ : ∃ V, valF l name = V := ⟨_, rfl⟩
  have HV := hid hV
  rw [hV]
  clear hR hz hV
  obtain ⟨n, hnn⟩ : ∃ n, l.length = n := ⟨_, rfl⟩
  have HN := hid hnn
  rw [hnn] at hn C ⊢
  clear hnn
  go_enter Tryz.func103, Tryz.ntmps103
  go_wp2_with fail
  refine C.out.mono ?_
  rintro e w1 ⟨r, rfl, hr, hb1⟩
  have HB1 := hid hb1
  rcases hr with ⟨rfl, h1⟩ | ⟨i, hi, rfl, hq, h1⟩
  · have hv := valF_none h1
    rw [HV.out] at hv
    have HW := hid hv
    clear h1 hv hb1 C
    go_wp2
    go_ret2
    exact ⟨by rw [HW.out]; rfl, HB1.out⟩
  · have hv := valF_at hi h1 hq
    rw [HV.out] at hv
    have HW := hid hv
    obtain ⟨b, o, rfl, hb, c1, c2⟩ := HR.out.below HB1.out i hi
    have hin : (i : Int) < (n : Int) := by have := HN.out; omega
    have z2 := (HZ.out _ (List.getElem_mem hi)).2
    have CC := fun w => c_strings_Clone l[i].value w z2
    clear h1 hv hb1 C hq
    generalize l[i].name = x at *
    generalize l[i].value = y at *
    go_wp2_with fail
    refine (CC _).mono ?_
    rintro e w2 ⟨rfl, hb2⟩
    have HB2 := hid (bb HB1.out hb2)
    clear hb2 CC
    go_wp2
    go_ret2
    exact ⟨by rw [HW.out]; rfl, HB2.out⟩

end Go.Proofs.YtcjeodgfpnecgaaGreatDoor

namespace Go.Proofs.YtcjeodgfpnecgaaGreatDoor
open Go.RowKit
set_option linter.unusedVariables false
set_option linter.unusedSimpArgs false

theorem cValueOkI (s : ByteArray) (w : World) (hs : s.size ≤ 1048576) :
    Calls Tryz.prog 93 #[.string s] w fun e w' => e = .returned (.bool (decide (s.size ≤ 60) && plainL s.data.toList)) ∧ w' = w := by
  have CP := fun w => c_impl_PlainOk s w (by unfold maxLen; omega)
  by_cases q : s.size ≤ 60
  · rw [decide_eq_true q, Bool.true_and]
    have hd : decide ((s.size : Int) ≤ 60) = true := by simp; omega
    go_enter Tryz.func93, Tryz.ntmps93
    go_wp2_with fail
    refine (CP _).mono ?_
    rintro e w1 ⟨rfl, rfl⟩
    go_wp2_with fail
    go_ret
    exact ⟨rfl, rfl⟩
  · rw [decide_eq_false q, Bool.false_and]
    have hd : decide ((s.size : Int) ≤ 60) = false := by simp; omega
    clear CP
    go_enter Tryz.func93, Tryz.ntmps93
    go_wp2_with fail
    go_ret
    exact ⟨rfl, rfl⟩

theorem box2c {w : World} {g : Nat} {x y : Value} {T : TypeId} (h : w.heap[g]? = some (.cells #[x, y] T (0, 0))) : w.cell? ⟨g, 0, none⟩ = some x ∧ w.cell? ⟨g, 1, none⟩ = some y :=
  ⟨by rw [Lib.cell_of_heap h]; rfl, by rw [Lib.cell_of_heap h]; rfl⟩

set_option maxRecDepth 8000 in
set_option maxHeartbeats 4000000 in
theorem cAttrsOkI (a : Option Addr) (cap : Nat) (l : List At) (w : World) (hR : AtRow w a l) (hz : AtSz 1048576 l) (hn : l.length ≤ 1048576) :
    Calls Tryz.prog 92 #[.slice a l.length cap] w fun e w' => e = .returned (.bool (attrsB l)) ∧ Below w.heap.size w w' := by
  obtain ⟨V, hV⟩ : ∃ V, attrsB l = V := ⟨_, rfl⟩
  have HV := hid hV
  rw [hV]
  have HF : Hid (¬ AttrsOk l → V = false) := fun h => by rw [← HV.out]; exact attrsB_f h
  have HT : Hid (AttrsOk l → V = true) := fun h => by rw [← HV.out]; exact attrsB_t h
  clear hV HV
  have HR := hid hR
  have HZ := hid hz
  have HC := hid (fun (w : World) (hR : AtRow w a l) name (hm : name.size ≤ 1048576) => cAttrAt a cap l name w hR hz hn hm)
  clear hR hz
  obtain ⟨n, hnn⟩ : ∃ n, l.length = n := ⟨_, rfl⟩
  have HN := hid hnn
  rw [hnn] at hn HC ⊢
  clear hnn
  by_cases h6 : n ≤ 6
  · have d6 : decide ((6 : Int) < (n : Int)) = false := by simp; omega
    go_enter Tryz.func92, Tryz.ntmps92
    go_wp2
    go_loopw [10] (fun k wr => ∃ i : Nat, k = .int .i64 (i : Int) ∧ i ≤ n ∧ Hid (AtsOk i l) ∧ Hid (Below w.heap.size w wr)) (fun k _ => n - (intOf k).toNat)
    case atStart => exact ⟨0, rfl, Nat.zero_le _, ⟨fun j _ h => by omega, fun i j _ _ h => by omega⟩, Below.refl _ _⟩
    case round =>
      obtain ⟨i, rfl, hi, HA, HB⟩ := hrel
      by_cases hlt : i < n
      · have his : i < l.length := by rw [HN.out]; exact hlt
        have hin : (i : Int) < (n : Int) := by omega
        obtain ⟨b, o, rfl, hb, c1, c2⟩ := HR.out.below HB.out i his
        obtain ⟨z1, z2⟩ := HZ.out _ (List.getElem_mem his)
        have CN := hid (fun w => c_impl_NameOk l[i].name w z1)
        have CV := hid (fun w => cValueOkI l[i].value w z2)
        have M := hid (heap_alloc_new wr (.cells #[.string l[i].name, .string l[i].value] 58))
        have HB0 := hid (HB.out.alloc HB.out.size (.cells #[.string l[i].name, .string l[i].value] 58))
        cases q1 : nameL l[i].name.data.toList
        · have HW := hid (HF.out (fun h => by have := (h.2.1 i his (by rw [HN.out]; exact hlt)).1; rw [q1] at this; cases this))
          rw [q1] at CN
          generalize l[i].name = x at *
          generalize l[i].value = y at *
          clear CV HC
          go_wp2_with fail
          refine (CN.out _).mono ?_
          rintro e w1 ⟨rfl, hb1⟩
          have HB1 := hid (bb HB0.out hb1)
          clear hb1 c1 c2 CN
          go_wp2_with fail
          go_ret
          exact ⟨by rw [HW.out]; rfl, HB1.out⟩
        · cases q2 : (decide (l[i].value.size ≤ 60) && plainL l[i].value.data.toList)
          · have HW := hid (HF.out (fun h => by
              obtain ⟨_, k1, k2⟩ := h.2.1 i his (by rw [HN.out]; exact hlt)
              rw [k1, decide_eq_true k2] at q2
              cases q2))
            rw [q1] at CN
            rw [q2] at CV
            generalize l[i].name = x at *
            generalize l[i].value = y at *
            clear HC
            go_wp2_with fail
            refine (CN.out _).mono ?_
            rintro e w1 ⟨rfl, hb1⟩
            have HB1 := hid (bb HB0.out hb1)
            obtain ⟨x0, x1⟩ := box2c (blk_below M.out hb1)
            clear hb1 c1 c2 CN
            go_wp2_with fail
            refine (CV.out _).mono ?_
            rintro e w2 ⟨rfl, rfl⟩
            go_wp2_with fail
            go_ret
            exact ⟨by rw [HW.out]; rfl, HB1.out⟩
          · have HOK := hid (show atOk l[i] from ⟨q1, by
              simp only [Bool.and_eq_true, decide_eq_true_eq] at q2
              exact ⟨q2.2, q2.1⟩⟩)
            rw [q1] at CN
            rw [q2] at CV
            obtain ⟨x, hx⟩ : ∃ x, l[i].name = x := ⟨_, rfl⟩
            obtain ⟨y, hy⟩ : ∃ y, l[i].value = y := ⟨_, rfl⟩
            have HX := hid hx
            rw [hx] at c1 CN z1 M HB0
            rw [hy] at c2 CV z2 M HB0
            have HCx := hid (fun w1 (h : Below w.heap.size w w1) => HC.out w1 (HR.out.below h) x z1)
            clear hx hy q1 q2 HC
            go_wp2_with fail
            refine (CN.out _).mono ?_
            rintro e w1 ⟨rfl, hb1⟩
            have HB1 := hid (bb HB0.out hb1)
            obtain ⟨x0, x1⟩ := box2c (blk_below M.out hb1)
            clear hb1 c1 c2 CN
            go_wp2_with fail
            refine (CV.out _).mono ?_
            rintro e w2 ⟨rfl, rfl⟩
            go_wp2_with fail
            refine (HCx.out _ HB1.out).mono ?_
            rintro e w3 ⟨r, rfl, hr, hb3⟩
            have HB3 := hid (bb HB1.out hb3)
            clear hb3 x0 x1
            rcases hr with ⟨_, h1⟩ | ⟨j, hj, rfl, hq, h1⟩
            · exact absurd HX.out (h1 _ (List.getElem_mem his))
            · have hji : j ≤ i := by
                rcases Nat.lt_or_ge i j with h' | h'
                · exact absurd HX.out (h1 l[i] (List.mem_take_iff_getElem.2 ⟨i, by omega, rfl⟩))
                · exact h'
              rcases Nat.lt_or_eq_of_le hji with h' | rfl
              · have HW := hid (HF.out (fun h => h.2.2 i j his h' (by rw [HN.out]; exact hlt) (by rw [hq, HX.out])))
                have hd : ((j : Int) == (i : Int)) = false := by simp; omega
                clear hq h1 hj hji h'
                go_wp2_with fail
                go_ret
                exact ⟨by rw [HW.out]; rfl, HB3.out⟩
              · have HA2 := hid (HA.out.next his HOK.out (fun m hm => by
                  intro e
                  exact h1 l[m] (List.mem_take_iff_getElem.2 ⟨m, by omega, rfl⟩) (e.trans HX.out)))
                clear hq h1 hj hji
                go_wp2_with fail
                go_roundw
                case rel => exact ⟨j + 1, by go_num, by omega, HA2.out, HB3.out⟩
                case measure => simp [intOf]; omega
      · have hie : i = n := by omega
        subst hie
        have HW := hid (HT.out ⟨by rw [HN.out]; exact h6, by rw [HN.out]; exact HA.out⟩)
        go_wp2_with fail
        go_ret
        exact ⟨by rw [HW.out]; rfl, HB.out⟩
  · have d6 : decide ((6 : Int) < (n : Int)) = true := by simp; omega
    have HW := hid (HF.out (fun h => h6 (by have := h.1; rw [HN.out] at this; exact this)))
    go_enter Tryz.func92, Tryz.ntmps92
    go_wp2
    go_ret
    exact ⟨by rw [HW.out]; rfl, Below.refl _ _⟩

set_option maxRecDepth 8000 in
set_option maxHeartbeats 2000000 in
theorem cTokenOkI (t : Tk) (a : Option Addr) (cap : Nat) (w : World) (hR : AtRow w a t.attrs) (hz : TkSz 1048576 t) :
    Calls Tryz.prog 64 #[tkV t a cap] w fun e w' => e = .returned (.bool (tokB t)) ∧ Below w.heap.size w w' := by
  obtain ⟨k, name, l, text⟩ := t
  obtain ⟨h1, h2, h3, h4⟩ := hz
  simp only at hR h1 h2 h3 h4
  have HB0 := hid ((Below.refl w.heap.size w).alloc (Nat.le_refl _) (.cells #[.int .i64 k, .string name, .slice a l.length cap, .string text] 101))
  have HR := hid (hR.below HB0.out)
  have CN := fun w => c_impl_NameOk name w h1
  have CA := fun (w : World) (hR : AtRow w a l) => cAttrsOkI a cap l w hR h3 h2
  have CX := fun w => cValueOkI text w h4
  have E1 := empty_is name
  have E2 := empty_is text
  obtain ⟨V, hV⟩ : ∃ V, tokB ⟨k, name, l, text⟩ = V := ⟨_, rfl⟩
  have HV := hid hV
  rw [hV]
  clear hV hR h3
  simp only [tkV]
  obtain ⟨n, hn⟩ : ∃ n, l.length = n := ⟨_, rfl⟩
  have HN := hid hn
  rw [hn] at CA HB0 HR h2 ⊢
  clear hn
  have E3 : ((n : Int) == 0) = decide (n = 0) := by
    by_cases h : n = 0
    · subst h; rfl
    · rw [decide_eq_false h]; simp; omega
  by_cases k1 : k = 1
  · subst k1
    have hv := HV.out
    unfold tokB at hv
    simp only [if_true] at hv
    cases q1 : nameL name.data.toList
    · rw [q1] at hv CN
      have HW := hid (show V = false from hv.symm)
      clear hv CA CX
      go_enter Tryz.func64, Tryz.ntmps64
      go_wp2_with fail
      refine (CN _).mono ?_
      rintro e w1 ⟨rfl, hb1⟩
      have HB1 := hid (bb HB0.out hb1)
      go_wp2_with fail
      go_ret
      exact ⟨by rw [HW.out]; rfl, HB1.out⟩
    · rw [q1, Bool.true_and] at hv
      rw [q1] at CN
      cases q2 : attrsB l
      · rw [q2] at hv CA
        have HW := hid (show V = false from hv.symm)
        clear hv CX
        go_enter Tryz.func64, Tryz.ntmps64
        go_wp2_with fail
        refine (CN _).mono ?_
        rintro e w1 ⟨rfl, hb1⟩
        obtain ⟨hc, hf⟩ := bcell hb1
        have HB1 := hid (bb HB0.out hb1)
        have HR1 := hid (HR.out.below hb1)
        go_wp2_with fail
        refine (CA _ HR1.out).mono ?_
        rintro e w2 ⟨rfl, hb2⟩
        have HB2 := hid (bb HB1.out hb2)
        go_wp2_with fail
        go_ret
        exact ⟨by rw [HW.out]; rfl, HB2.out⟩
      · rw [q2, Bool.true_and] at hv
        rw [q2] at CA
        have HW := hid hv
        rw [hv] at E2
        clear hv CX
        go_enter Tryz.func64, Tryz.ntmps64
        go_wp2_with fail
        refine (CN _).mono ?_
        rintro e w1 ⟨rfl, hb1⟩
        obtain ⟨hc, hf⟩ := bcell hb1
        have HB1 := hid (bb HB0.out hb1)
        have HR1 := hid (HR.out.below hb1)
        have hz1 : w.heap.size < w1.heap.size := by have := hb1.size; simp at this; omega
        go_wp2_with fail
        refine (CA _ HR1.out).mono ?_
        rintro e w2 ⟨rfl, hb2⟩
        obtain ⟨hc2, hf2⟩ := bcell hb2
        have HB2 := hid (bb HB1.out hb2)
        go_wp2_with fail
        go_ret
        exact ⟨rfl, HB2.out⟩
  · by_cases k2 : k = 2
    · subst k2
      have hv := HV.out
      unfold tokB at hv
      simp only [show ¬ ((2 : Int) = 1) by decide, if_false, if_true] at hv
      rw [HN.out] at hv
      cases q1 : nameL name.data.toList
      · rw [q1] at hv CN
        have HW := hid (show V = false from hv.symm)
        clear hv CA CX
        go_enter Tryz.func64, Tryz.ntmps64
        go_wp2_with fail
        refine (CN _).mono ?_
        rintro e w1 ⟨rfl, hb1⟩
        have HB1 := hid (bb HB0.out hb1)
        go_wp2_with fail
        go_ret
        exact ⟨by rw [HW.out]; rfl, HB1.out⟩
      · rw [q1, Bool.true_and] at hv
        rw [q1] at CN
        cases q2 : decide (n = 0)
        · rw [q2] at hv E3
          have HW := hid (show V = false from hv.symm)
          clear hv CX CA
          go_enter Tryz.func64, Tryz.ntmps64
          go_wp2_with fail
          refine (CN _).mono ?_
          rintro e w1 ⟨rfl, hb1⟩
          obtain ⟨hc, hf⟩ := bcell hb1
          have HB1 := hid (bb HB0.out hb1)
          go_wp2_with fail
          go_ret
          exact ⟨by rw [HW.out]; rfl, HB1.out⟩
        · rw [q2, Bool.true_and] at hv
          rw [q2] at E3
          rw [hv] at E2
          clear hv CX CA
          go_enter Tryz.func64, Tryz.ntmps64
          go_wp2_with fail
          refine (CN _).mono ?_
          rintro e w1 ⟨rfl, hb1⟩
          obtain ⟨hc, hf⟩ := bcell hb1
          have HB1 := hid (bb HB0.out hb1)
          go_wp2_with fail
          go_ret
          exact ⟨rfl, HB1.out⟩
    · by_cases k3 : k = 3
      · subst k3
        have hv := HV.out
        unfold tokB at hv
        simp only [show ¬ ((3 : Int) = 1) by decide, show ¬ ((3 : Int) = 2) by decide, if_false, if_true] at hv
        rw [HN.out] at hv
        cases q1 : decide (name.size = 0)
        · rw [q1] at hv E1
          have HW := hid (show V = false from hv.symm)
          clear hv CA CX CN
          go_enter Tryz.func64, Tryz.ntmps64
          go_wp2_with fail
          go_ret
          exact ⟨by rw [HW.out]; rfl, HB0.out⟩
        · rw [q1, Bool.true_and] at hv
          rw [q1] at E1
          cases q2 : decide (n = 0)
          · rw [q2] at hv E3
            have HW := hid (show V = false from hv.symm)
            clear hv CX CA CN
            go_enter Tryz.func64, Tryz.ntmps64
            go_wp2_with fail
            go_ret
            exact ⟨by rw [HW.out]; rfl, HB0.out⟩
          · rw [q2, Bool.true_and] at hv
            rw [q2] at E3
            cases q3 : decide (text.size = 0)
            · rw [q3] at E2
              have q3' : ¬ text.size = 0 := of_decide_eq_false q3
              have e1 : textB text = (decide (text.size ≤ 60) && plainL text.data.toList) := by
                unfold textB
                rw [Bool.and_comm]
                congr 1
                rw [decide_eq_decide]
                omega
              rw [e1] at hv
              rw [hv] at CX
              clear hv CA CN e1
              go_enter Tryz.func64, Tryz.ntmps64
              go_wp2_with fail
              refine (CX _).mono ?_
              rintro e w1 ⟨rfl, rfl⟩
              go_wp2_with fail
              go_ret
              exact ⟨rfl, HB0.out⟩
            · rw [q3] at E2
              have q3' : text.size = 0 := of_decide_eq_true q3
              have e1 : textB text = false := by
                unfold textB
                rw [decide_eq_false (by omega), Bool.and_false]
              rw [e1] at hv
              have HW := hid hv
              clear hv CA CN CX e1
              go_enter Tryz.func64, Tryz.ntmps64
              go_wp2_with fail
              go_ret
              exact ⟨by rw [← HW.out]; rfl, HB0.out⟩
      · have hv := HV.out
        unfold tokB at hv
        simp only [k1, k2, k3, if_false] at hv
        have HW := hid (show V = false from hv.symm)
        have d1 : (k == 1) = false := by simpa using k1
        have d2 : (k == 2) = false := by simpa using k2
        have d3 : (k == 3) = false := by simpa using k3
        clear hv CA CX CN
        go_enter Tryz.func64, Tryz.ntmps64
        go_wp2_with fail
        go_ret
        exact ⟨by rw [HW.out]; rfl, HB0.out⟩

end Go.Proofs.YtcjeodgfpnecgaaGreatDoor
