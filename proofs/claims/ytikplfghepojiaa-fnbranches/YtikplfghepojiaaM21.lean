/- What is gone, and what stands as it stood (mathematics alone). What a branch says is what stood there (mathematics alone). Contracts of attrAt and ValueIn of the program. -/
import Derived.Test.YtikplfghepojiaaM20
import Derived.Test.YtikplfghepojiaaM19
import Derived.Test.YtikplfghepojiaaM1
import Derived.Test.YtikplfghepojiaaM7
namespace Go.Proofs.Ytikplfghepojiaa
open Go.RowKit
set_option linter.unusedVariables false

section
variable {ts : List Tk} {a e : Nat}

/-- What stands ahead of it stands as it stood. -/
theorem cut_take (hae : a ≤ e) (he : e ≤ ts.length) (ha1 : 1 ≤ a) : (cutL ts a e).take (a - 1) = ts.take (a - 1) := by
  cases hs : sideB ts a e with
  | false =>
    rw [cutL_no hs]
    unfold outC
    rw [Nat.min_eq_right (by omega), List.take_append_of_le_length (by rw [List.length_take]; omega), List.take_take, Nat.min_eq_left (by omega)]
  | true =>
    have hs' := hs
    unfold sideB at hs'
    split at hs'
    · rename_i t u ht hu
      rw [cutL_yes hs ht hu]
      unfold joinC
      rw [List.take_append_of_le_length (by rw [List.length_set, List.length_take]; omega), List.take_set_of_le (Nat.le_refl _), List.take_take, Nat.min_eq_left (by omega)]
    · cases hs'

/-- Just what it had is gone, or one text more. -/
theorem cut_size (hae : a ≤ e) (he : e ≤ ts.length) (ha1 : 1 ≤ a) : (cutL ts a e).length + (e - a) = ts.length ∨ (cutL ts a e).length + (e - a) + 1 = ts.length := by
  cases hs : sideB ts a e with
  | false =>
    left
    rw [cutL_no hs, outC_len hae he (Nat.le_refl _)]
    omega
  | true =>
    right
    have hs' := hs
    unfold sideB at hs'
    split at hs'
    · rename_i t u ht hu
      rw [cutL_yes hs ht hu]
      unfold joinC
      have hel : e < ts.length := by
        rcases Nat.lt_or_ge e ts.length with h' | h'
        · exact h'
        · rw [List.getElem?_eq_none h'] at hu; cases hu
      rw [List.length_append, List.length_set, List.length_take, segN_len _ (by omega)]
      omega
    · cases hs'

end

end Go.Proofs.Ytikplfghepojiaa

namespace Go.Proofs.Ytikplfghepojiaa
open Go.RowKit
set_option linter.unusedVariables false

section
variable {ts : List Tk} {k : Nat}

theorem kids_branch (hT : TreeP ts) (hk : k < ts.length) : kidsN ts k = (kidsN (branchL ts k) 0).map (fun x => k + x) := by
  have hle := endN_le hk
  have hlen := branchL_len hk
  rw [kidsN_from hk, kidsN_from (ts := branchL ts k) (k := 0) (by omega), kidsFrom_split (b := endN ts k) (by omega) hle.2, kidsFrom_none (fun i h1 h2 => no_kid hT hk h1 h2), List.append_nil, hlen]
  unfold kidsFrom
  have e : List.range' (k + 1) (endN ts k - (k + 1)) = (List.range' (0 + 1) (endN ts k - k - (0 + 1))).map (fun x => k + x) := by
    rw [List.map_add_range', show endN ts k - k - (0 + 1) = endN ts k - (k + 1) by omega]
  rw [e, List.filter_map]
  congr 1
  refine List.filter_congr fun i hi => ?_
  rw [List.mem_range'_1] at hi
  show decide (parI ts (k + i) = (k : Int)) = decide (parI (branchL ts k) i = ((0 : Nat) : Int))
  rw [branch_par hk (by omega), if_neg (by omega)]
  apply decide_eq_decide.2
  omega

theorem text_branch (hk : k < ts.length) {j : Nat} (hj : k + j < endN ts k) : textAt (branchL ts k) j = textAt ts (k + j) := by
  obtain ⟨h1, h2, e⟩ := branch_get hk hj
  rw [textAt_at h2, textAt_at h1, e]
  rfl

theorem join_branch (hk : k < ts.length) : ∀ (l : List Nat), (∀ j ∈ l, k + j < endN ts k) → ∀ s : ByteArray, (l.map (fun x => k + x)).foldl (fun s i => s ++ textAt ts i) s = l.foldl (fun s i => s ++ textAt (branchL ts k) i) s
  | [], _, s => rfl
  | j :: l, h, s => by
    show (l.map (fun x => k + x)).foldl _ (s ++ textAt ts (k + j)) = l.foldl _ (s ++ textAt (branchL ts k) j)
    rw [text_branch hk (h j (List.mem_cons_self ..))]
    exact join_branch hk l (fun i hi => h i (List.mem_cons_of_mem _ hi)) _

theorem hasB_of (hT : TreeP ts) (hk : k < ts.length) : hasB ts (k : Int) = true := by
  unfold hasB
  rw [treeB_t hT, decide_eq_true (show (0 : Int) ≤ (k : Int) ∧ (k : Int) < (ts.length : Int) from ⟨by omega, by omega⟩)]
  rfl

/-- What a branch says is what stood there. -/
theorem branch_text (hT : TreeP ts) (hk : k < ts.length) (he : elN ts k) : textI (branchL ts k) 0 = textI ts (k : Int) := by
  have hb := branch_tree hT hk he
  have hlen := branchL_len hk
  have h1 : textI (branchL ts k) 0 = joinT (branchL ts k) (kidsN (branchL ts k) 0) := by
    unfold textI
    rw [if_pos (show hasB (branchL ts k) 0 = true from hasB_of (k := 0) hb hb.1)]
    rfl
  have h2 : textI ts (k : Int) = joinT ts (kidsN ts k) := by
    unfold textI
    rw [if_pos (hasB_of hT hk)]
    rfl
  rw [h1, h2, kids_branch hT hk]
  unfold joinT
  exact (join_branch hk _ (fun j hj => by have := kidsN_lt hj; omega) _).symm

end

end Go.Proofs.Ytikplfghepojiaa

namespace Go.Proofs.Ytikplfghepojiaa
open Go.RowKit
set_option linter.unusedVariables false
set_option linter.unusedSimpArgs false

/-- Where the first with this name stands, or -1. -/
def IdxIs (l : List At) (name : ByteArray) (r : Int) : Prop :=
  (r = -1 ∧ ∀ x ∈ l, ¬ x.name = name) ∨ ∃ i : Nat, ∃ h : i < l.length, r = (i : Int) ∧ l[i].name = name ∧ ∀ x ∈ l.take i, ¬ x.name = name

theorem cell_alloc {w : World} {p : Addr} {v : Value} (h : w.cell? p = some v) (hp : p.block < w.heap.size) (o : Obj) : (w.alloc o).cell? p = some v :=
  (((Below.refl w.heap.size w).alloc (Nat.le_refl _) o).cell hp).trans h

set_option maxHeartbeats 1000000 in
theorem cAttrAt1 (n v name : ByteArray) (b o : Nat) (w : World) (hp : b < w.heap.size) (hc : w.cell? ⟨b, o, none⟩ = some (.string name)) (hn : n.size ≤ 1048576) (hm : name.size ≤ 1048576) :
    Calls Try.prog 116 #[.agg #[.string n, .string v], .pointer (some ⟨b, o, none⟩)] w fun e w' => e = .returned (.bool (decide (n = name))) ∧ Below w.heap.size w w' := by
  have HB0 := hid ((Below.refl w.heap.size w).alloc (Nat.le_refl _) (.cells #[.string n, .string v] 81))
  have c1 := cell_alloc hc hp (.cells #[.string n, .string v] 81)
  have hd := str_beq n name
  generalize decide (n = name) = D at hd ⊢
  clear hc
  go_enter Try.func116, Try.ntmps116
  go_wp2
  go_ret
  exact ⟨rfl, HB0.out⟩

set_option maxHeartbeats 1000000 in
theorem cIndexFunc (a : Option Addr) (cap : Nat) (l : List At) (name : ByteArray) (b0 o0 : Nat) (w : World) (hR : AtRow w a l) (hz : AtSz 1048576 l) (hn : l.length ≤ 1048576) (hm : name.size ≤ 1048576)
    (hp : b0 < w.heap.size) (hc : w.cell? ⟨b0, o0, none⟩ = some (.string name)) :
    Calls Try.prog 115 #[.slice a l.length cap, .func (.func 116) #[] #[.pointer (some ⟨b0, o0, none⟩)]] w fun e w' => ∃ r : Int, e = .returned (.int .i64 r) ∧ IdxIs l name r ∧ Below w.heap.size w w' := by
  have HR := hid hR
  have HZ := hid hz
  have HC := hid hc
  have HP := hid hp
  clear hR hz hc hp
  obtain ⟨n, hnn⟩ : ∃ n, l.length = n := ⟨_, rfl⟩
  have HN := hid hnn
  rw [hnn] at hn ⊢
  clear hnn
  go_enter Try.func115, Try.ntmps115
  go_wp2
  go_loopw [8] (fun k wr => ∃ i : Nat, k = .int .i64 (i : Int) ∧ i ≤ n ∧ Hid (∀ x ∈ l.take i, ¬ x.name = name) ∧ Hid (Below w.heap.size w wr)) (fun k _ => n - (intOf k).toNat)
  case atStart => exact ⟨0, rfl, Nat.zero_le _, fun x hx => by simp at hx, Below.refl _ _⟩
  case round =>
    obtain ⟨i, rfl, hi, HO, HB⟩ := hrel
    by_cases hlt : i < n
    · have his : i < l.length := by rw [HN.out]; exact hlt
      obtain ⟨b, o, rfl, hb, c1, c2⟩ := HR.out.below HB.out i his
      have hin : (i : Int) < (n : Int) := by omega
      have HT := hid (take_snocN his)
      have z1 := (HZ.out _ (List.getElem_mem his)).1
      have HS := hid HB.out.size
      have HCr := hid ((HB.out.cell (p := ⟨b0, o0, none⟩) HP.out).trans HC.out)
      have C := hid (cAttrAt1 l[i].name l[i].value name b0 o0 wr (Nat.lt_of_lt_of_le HP.out HS.out) HCr.out z1 hm)
      by_cases hq : l[i].name = name
      · have HI := hid (show IdxIs l name (i : Int) from .inr ⟨i, his, rfl, hq, HO.out⟩)
        have e0 : decide (l[i].name = name) = true := decide_eq_true hq
        rw [e0] at C
        generalize l[i].name = x at *
        generalize l[i].value = y at *
        clear hq e0
        go_wp2_with fail
        refine C.out.mono ?_
        rintro e w1 ⟨rfl, hb1⟩
        have HB1 := hid (bb HB.out hb1)
        go_wp2
        go_ret
        exact ⟨_, rfl, HI.out, HB1.out⟩
      · have HO2 := hid (show ∀ x ∈ l.take (i + 1), ¬ x.name = name by
          rw [HT.out]
          intro x hx
          rcases List.mem_append.1 hx with h | h
          · exact HO.out x h
          · rw [List.mem_singleton] at h
            subst h
            exact hq)
        have e0 : decide (l[i].name = name) = false := decide_eq_false hq
        rw [e0] at C
        generalize l[i].name = x at *
        generalize l[i].value = y at *
        clear hq e0
        go_wp2_with fail
        refine C.out.mono ?_
        rintro e w1 ⟨rfl, hb1⟩
        have HB1 := hid (bb HB.out hb1)
        go_wp2
        go_roundw
        case rel => exact ⟨i + 1, by go_num, by omega, HO2.out, HB1.out⟩
        case measure => simp [intOf]; omega
    · have hie : i = n := by omega
      subst hie
      have h1 := HO.out
      rw [List.take_of_length_le (by rw [HN.out]; exact Nat.le_refl _)] at h1
      have HI := hid (show IdxIs l name (-1) from .inl ⟨rfl, h1⟩)
      clear h1
      go_wp2
      go_ret
      exact ⟨_, rfl, HI.out, HB.out⟩

set_option maxHeartbeats 1000000 in
theorem cAttrAt (a : Option Addr) (cap : Nat) (l : List At) (name : ByteArray) (w : World) (hR : AtRow w a l) (hz : AtSz 1048576 l) (hn : l.length ≤ 1048576) (hm : name.size ≤ 1048576) :
    Calls Try.prog 111 #[.slice a l.length cap, .string name] w fun e w' => ∃ r : Int, e = .returned (.int .i64 r) ∧ IdxIs l name r ∧ Below w.heap.size w w' := by
  have hmf : ∀ (fn : Fn) (first cap : Array Value) (w : World), (Instr.makeFunc fn first cap).run Try.prog w = .ok (.func fn first cap) w := fun _ _ _ _ => rfl
  have HB0 := hid ((Below.refl w.heap.size w).alloc (Nat.le_refl _) (.cells #[.string name] 9))
  have C := hid (cIndexFunc a cap l name w.heap.size 0 (w.alloc (.cells #[.string name] 9)) (hR.below HB0.out) hz hn hm (by simp) (by simp [go_sem]))
  clear hR hz
  generalize l.length = n at *
  go_enter Try.func111, Try.ntmps111
  go_wp2_with fail
  refine C.out.mono ?_
  rintro e w1 ⟨r, rfl, hr, hb1⟩
  have HI := hid hr
  have HB1 := hid (bb HB0.out hb1)
  clear hr hb1
  go_wp2
  go_ret
  exact ⟨_, rfl, HI.out, HB1.out⟩

end Go.Proofs.Ytikplfghepojiaa
