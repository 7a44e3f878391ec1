/- Contracts of the functions that ask whether bytes are plain. Contracts of what the specification asks of tokens. Contract of TokenOk of the specification. What a tree is: who stands open around a node (plain mathematics). -/
import Derived.Test.YtemapjlogfffpaaRows
import Derived.Test.YtemapjlogfffpaaM4
import Derived.Test.YtemapjlogfffpaaM2
import Derived.Test.YtemapjlogfffpaaM3
import Derived.WalkKit
namespace Go.Proofs.Ytemapjlogfffpaa
open Go.RowKit

theorem ret_boolE {a b : Bool} (h : a = b) : Ending.returned (.bool a) = .returned (.bool b) := by rw [h]

theorem c_spec_l1Plain (c : Int) (w : World) (h0 : 0 ≤ c) (h1 : c ≤ 255) :
    Calls Try.prog 24 #[.int .u8 c] w fun e w' => e = .returned (.bool (plainB c)) ∧ w' = w := by
  go_enter Try.func24, Try.ntmps24
  go_wp2
  all_goals go_ret
  all_goals exact ⟨ret_boolE (by rw [Bool.eq_iff_iff]; simp [plainB]; omega), rfl⟩

theorem c__impl_sign__plain (c : Int) (w : World) (h0 : 0 ≤ c) (h1 : c ≤ 255) :
    Calls Try.prog 38 #[.int .u8 c] w fun e w' => e = .returned (.bool (plainB c)) ∧ w' = w := by
  go_enter Try.func38, Try.ntmps38
  go_wp2
  all_goals go_ret
  all_goals exact ⟨ret_boolE (by rw [Bool.eq_iff_iff]; simp [plainB]; try omega), rfl⟩

theorem c_spec_PlainOk (s : ByteArray) (w : World) (hs : s.size ≤ maxLen) :
    Calls Try.prog 13 #[.string s] w fun e w' => e = .returned (.bool (plainL s.data.toList)) ∧ w' = w := by
  unfold maxLen at hs
  go_enter Try.func13, Try.ntmps13
  go_wp2
  go_loop [3] (fun i => ∃ k : Nat, k ≤ s.size ∧ i = .int .i64 k ∧ plainL (s.data.toList.take k) = true) (fun i => s.size - (intOf i).toNat)
  case atStart => exact ⟨0, Nat.zero_le _, rfl, rfl⟩
  case round =>
    obtain ⟨k, hk, rfl, hp⟩ := hrel
    by_cases hlt : k < s.size
    · have HP : Hid (plainL (s.data.toList.take k) = true) := hp
      clear hp
      have hb : (s[k].toNat : Int) ≤ 255 := by have := s[k].toNat_lt; omega
      cases hc : plainB s[k].toNat
      · go_wp2_with (go_at_call 24; refine (c_spec_l1Plain _ _ (by omega) hb).mono ?_; rintro e w' ⟨rfl, rfl⟩)
        go_ret
        exact ⟨ret_boolE (plainL_no s k hlt hc).symm, rfl⟩
      · go_wp2_with (go_at_call 24; refine (c_spec_l1Plain _ _ (by omega) hb).mono ?_; rintro e w' ⟨rfl, rfl⟩)
        go_round
        case rel => exact ⟨k + 1, by omega, by go_num, by rw [take_snocE s k hlt, plainL_snoc, HP.out, hc]; rfl⟩
        case measure => simp [intOf]; omega
    · go_wp2
      go_ret
      exact ⟨ret_boolE (by rw [← plainL_full s k hlt]; exact hp.symm), rfl⟩

theorem c_impl_allSignsE (s : ByteArray) (w : World) (hs : s.size ≤ maxLen) :
    Calls Try.prog 26 #[.string s, .func (.func 38) #[] #[]] w fun e w' => e = .returned (.bool (plainL s.data.toList)) ∧ w' = w := by
  unfold maxLen at hs
  go_enter Try.func26, Try.ntmps26
  go_wp2
  go_loop [8] (fun i => ∃ k : Nat, k ≤ s.size ∧ i = .int .i64 k ∧ plainL (s.data.toList.take k) = true) (fun i => s.size - (intOf i).toNat)
  case atStart => exact ⟨0, Nat.zero_le _, rfl, rfl⟩
  case round =>
    obtain ⟨k, hk, rfl, hp⟩ := hrel
    by_cases hlt : k < s.size
    · have HP : Hid (plainL (s.data.toList.take k) = true) := hp
      clear hp
      have hb : (s[k].toNat : Int) ≤ 255 := by have := s[k].toNat_lt; omega
      cases hc : plainB s[k].toNat
      · go_wp2_with (go_at_call 38; refine (c__impl_sign__plain _ _ (by omega) hb).mono ?_; rintro e w' ⟨rfl, rfl⟩)
        go_ret
        exact ⟨ret_boolE (plainL_no s k hlt hc).symm, rfl⟩
      · go_wp2_with (go_at_call 38; refine (c__impl_sign__plain _ _ (by omega) hb).mono ?_; rintro e w' ⟨rfl, rfl⟩)
        go_round
        case rel => exact ⟨k + 1, by omega, by go_num, by rw [take_snocE s k hlt, plainL_snoc, HP.out, hc]; rfl⟩
        case measure => simp [intOf]; omega
    · go_wp2
      go_ret
      exact ⟨ret_boolE (by rw [← plainL_full s k hlt]; exact hp.symm), rfl⟩

theorem c_impl_PlainOk (s : ByteArray) (w : World) (hs : s.size ≤ maxLen) :
    Calls Try.prog 34 #[.string s] w fun e w' => e = .returned (.bool (plainL s.data.toList)) ∧ w' = w := by
  go_enter Try.func34, Try.ntmps34
  go_wp2_with (go_at_call 26; refine (c_impl_allSignsE _ _ hs).mono ?_; rintro e w' ⟨rfl, rfl⟩)
  go_ret
  exact ⟨rfl, rfl⟩

end Go.Proofs.Ytemapjlogfffpaa

namespace Go.Proofs.Ytemapjlogfffpaa
open Go.RowKit
set_option linter.unusedVariables false
set_option linter.unusedSimpArgs false

/-- An attr that is right. -/
def atOk (x : At) : Prop := nameL x.name.data.toList = true ∧ plainL x.value.data.toList = true ∧ x.value.size ≤ 60

/-- The first n of these are right, and no two names of them alike. -/
def AtsOk (n : Nat) (l : List At) : Prop := (∀ j (h : j < l.length), j < n → atOk l[j]) ∧ ∀ i j (hi : i < l.length) (hj : j < i), i < n → ¬ l[j].name = l[i].name

/-- Attrs that are right. -/
def AttrsOk (l : List At) : Prop := l.length ≤ 6 ∧ AtsOk l.length l

noncomputable def attrsB (l : List At) : Bool := open Classical in decide (AttrsOk l)

theorem attrsB_t {l : List At} (h : AttrsOk l) : attrsB l = true := by unfold attrsB; simp [h]

theorem attrsB_f {l : List At} (h : ¬ AttrsOk l) : attrsB l = false := by unfold attrsB; simp [h]

theorem AtsOk.next {l : List At} {i : Nat} (hi : i < l.length) (h : AtsOk i l) (h1 : atOk l[i]) (h2 : ∀ j (hj : j < i), ¬ l[j].name = l[i].name) : AtsOk (i + 1) l := by
  refine ⟨fun j hj hlt => ?_, fun a b ha hb hlt => ?_⟩
  · rcases Nat.lt_or_eq_of_le (Nat.le_of_lt_succ hlt) with h' | h'
    · exact h.1 j hj h'
    · subst h'; exact h1
  · rcases Nat.lt_or_eq_of_le (Nat.le_of_lt_succ hlt) with h' | h'
    · exact h.2 a b ha hb h'
    · subst h'; exact h2 b hb

theorem bytes_beq (a b : ByteArray) : (a.toList == b.toList) = decide (a = b) := str_beq a b

theorem c_spec_In7 (x lo hi : Int) (w : World) :
    Calls Try.prog 14 #[.int .i64 x, .int .i64 lo, .int .i64 hi] w fun e w' => e = .returned (.bool (decide (lo ≤ x ∧ x ≤ hi))) ∧ w' = w := by
  go_enter Try.func14, Try.ntmps14
  go_wp2
  all_goals go_ret
  all_goals exact ⟨by congr 2; simp; try omega, rfl⟩

end Go.Proofs.Ytemapjlogfffpaa

namespace Go.Proofs.Ytemapjlogfffpaa
open Go.RowKit
set_option linter.unusedVariables false
set_option linter.unusedSimpArgs false

def textB (s : ByteArray) : Bool := plainL s.data.toList && decide (1 ≤ s.size ∧ s.size ≤ 60)

/-- What TokenOk answers. -/
noncomputable def tokB (t : Tk) : Bool :=
  if t.kind = 1 then nameL t.name.data.toList && (attrsB t.attrs && decide (t.text.size = 0))
  else if t.kind = 2 then nameL t.name.data.toList && (decide (t.attrs.length = 0) && decide (t.text.size = 0))
  else if t.kind = 3 then decide (t.name.size = 0) && (decide (t.attrs.length = 0) && textB t.text)
  else false

theorem empty_beq (s : ByteArray) : (s.toList == (⟨#[]⟩ : ByteArray).toList) = decide (s.size = 0) := by
  rw [str_beq]
  by_cases h : s.size = 0
  · rw [decide_eq_true h]
    refine decide_eq_true (ByteArray.ext ?_)
    exact Array.eq_empty_of_size_eq_zero h
  · rw [decide_eq_false h]
    refine decide_eq_false (fun e => h ?_)
    rw [e]; rfl

theorem empty_is (s : ByteArray) : s.toList.isEmpty = decide (s.size = 0) := by
  have e : s.size = s.data.toList.length := rfl
  rw [ByteArray.toList_eq, e]
  cases s.data.toList <;> simp

end Go.Proofs.Ytemapjlogfffpaa

namespace Go.Proofs.Ytemapjlogfffpaa
open Go.RowKit
set_option linter.unusedVariables false

/-- The parent of the node there. -/
def parI (ts : List Tk) (j : Nat) : Int := match ts[j]? with | some t => t.kind | none => -1

theorem parI_at {ts : List Tk} {j : Nat} (h : j < ts.length) : parI ts j = ts[j].kind := by unfold parI; rw [List.getElem?_eq_getElem h]

/-- The node there is an element. -/
def elN (ts : List Tk) (j : Nat) : Prop := ∃ h : j < ts.length, ¬ ts[j].name.size = 0

/-- The last of the first i nodes and all around it, the innermost first. -/
def chainF (ts : List Tk) : Nat → List Nat
  | 0 => []
  | i + 1 => i :: (chainF ts i).dropWhile (fun (j : Nat) => !decide ((j : Int) = parI ts i))

/-- Each is in the next one, the last is the first node. -/
def Linked (ts : List Tk) : List Nat → Prop
  | [] => False
  | [x] => x = 0
  | x :: y :: r => parI ts x = (y : Int) ∧ y < x ∧ Linked ts (y :: r)

theorem Linked.tail {ts : List Tk} {x y : Nat} {r : List Nat} (h : Linked ts (x :: y :: r)) : Linked ts (y :: r) := h.2.2

theorem Linked.le {ts : List Tk} : ∀ {c : List Nat} {x : Nat}, Linked ts (x :: c) → ∀ y ∈ x :: c, y ≤ x
  | [], x, h, y, hy => by rw [List.mem_singleton] at hy; omega
  | z :: r, x, h, y, hy => by
    rcases List.mem_cons.1 hy with rfl | hy
    · exact Nat.le_refl _
    · have := Linked.le (ts := ts) h.tail y hy
      have := h.2.1
      omega

theorem Linked.drop {ts : List Tk} : ∀ {c : List Nat}, Linked ts c → ∀ p, p ∈ c → ∃ r, c.dropWhile (fun (j : Nat) => !decide ((j : Int) = (p : Int))) = p :: r ∧ Linked ts (p :: r)
  | [], h, p, hp => absurd hp (by simp)
  | [x], h, p, hp => by
    rw [List.mem_singleton] at hp
    subst hp
    exact ⟨[], by simp, h⟩
  | x :: y :: r, h, p, hp => by
    by_cases e : x = p
    · subst e
      exact ⟨y :: r, by simp, h⟩
    · have hp' : p ∈ y :: r := by
        rcases List.mem_cons.1 hp with h' | h'
        · exact absurd h'.symm e
        · exact h'
      obtain ⟨r', e1, e2⟩ := Linked.drop h.tail p hp'
      refine ⟨r', ?_, e2⟩
      rw [List.dropWhile_cons, if_pos (by simp; omega)]
      exact e1

/-- The node may stand there: its parent is open, and an element. -/
def UpOk (ts : List Tk) (i : Nat) : Prop := i = 0 ∨ ∃ p, p ∈ chainF ts i ∧ (p : Int) = parI ts i ∧ elN ts p

theorem linked_next {ts : List Tk} {i : Nat} (h : Linked ts (chainF ts i)) (hu : UpOk ts i) (hi : ¬ i = 0) (hlt : ∀ p ∈ chainF ts i, p < i) : Linked ts (chainF ts (i + 1)) ∧ ∃ p r, chainF ts (i + 1) = i :: p :: r ∧ (p : Int) = parI ts i ∧ p < i := by
  rcases hu with h0 | ⟨p, hp, e, _⟩
  · exact absurd h0 hi
  · obtain ⟨r, e1, e2⟩ := h.drop p hp
    have e3 : chainF ts (i + 1) = i :: p :: r := by
      show i :: (chainF ts i).dropWhile (fun (j : Nat) => !decide ((j : Int) = parI ts i)) = _
      rw [← e, e1]
    rw [e3]
    exact ⟨⟨e.symm, hlt p hp, e2⟩, p, r, rfl, e, hlt p hp⟩

theorem chain_head (ts : List Tk) (i : Nat) : ∃ r, chainF ts (i + 1) = i :: r := ⟨_, rfl⟩

/-- Where all that stand ahead may stand there. -/
theorem linked_all {ts : List Tk} : ∀ i, (∀ j, j < i + 1 → UpOk ts j) → Linked ts (chainF ts (i + 1)) ∧ ∀ p ∈ chainF ts (i + 1), p < i + 1
  | 0, _ => ⟨rfl, fun p hp => by have : p ∈ [0] := hp; simp at this; omega⟩
  | i + 1, h => by
    obtain ⟨h1, h2⟩ := linked_all i (fun j hj => h j (by omega))
    obtain ⟨h3, p, r, e, _, _⟩ := linked_next h1 (h (i + 1) (by omega)) (by omega) h2
    refine ⟨h3, fun q hq => ?_⟩
    rw [e] at h3 hq
    have := h3.le q hq
    omega

/-- How deep. -/
noncomputable def depI (ts : List Tk) (i : Nat) : Int := open Classical in if UpOk ts i then ((chainF ts (i + 1)).length : Int) else 0

theorem depI_t {ts : List Tk} {i : Nat} (h : UpOk ts i) : depI ts i = ((chainF ts (i + 1)).length : Int) := by unfold depI; exact if_pos h

theorem depI_f {ts : List Tk} {i : Nat} (h : ¬ UpOk ts i) : depI ts i = 0 := by unfold depI; exact if_neg h

/-- A node that is right by itself. -/
noncomputable def nodeB (t : Tk) : Bool :=
  if t.name.size = 0 then decide (t.attrs.length = 0) && textB t.text else nameL t.name.data.toList && (attrsB t.attrs && decide (t.text.size = 0))

/-- The node and the one ahead of it are texts of one parent. -/
def TwinAt (ts : List Tk) (i : Nat) : Prop := ∃ (h : i < ts.length) (h0 : 0 < i), ts[i].name.size = 0 ∧ (ts[i - 1]'(by omega)).name.size = 0 ∧ (ts[i - 1]'(by omega)).kind = ts[i].kind

/-- The node may stand there, in all. -/
def NodeOk (ts : List Tk) (i : Nat) : Prop := (∃ h : i < ts.length, nodeB ts[i] = true) ∧ UpOk ts i ∧ (chainF ts (i + 1)).length ≤ 9 ∧ ¬ TwinAt ts i

/-- A tree. -/
def TreeP (ts : List Tk) : Prop := 1 ≤ ts.length ∧ ts.length ≤ 50 ∧ parI ts 0 = -1 ∧ elN ts 0 ∧ ∀ i, i < ts.length → NodeOk ts i

noncomputable def treeB (ts : List Tk) : Bool := open Classical in decide (TreeP ts)

theorem treeB_t {ts : List Tk} (h : TreeP ts) : treeB ts = true := by unfold treeB; simp [h]

theorem treeB_f {ts : List Tk} (h : ¬ TreeP ts) : treeB ts = false := by unfold treeB; simp [h]

end Go.Proofs.Ytemapjlogfffpaa
