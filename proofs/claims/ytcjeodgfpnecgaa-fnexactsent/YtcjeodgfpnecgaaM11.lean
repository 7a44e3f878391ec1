/- Contract of TokenOk of the specification. What a tree is: who stands open around a node (plain mathematics). -/
import Derived.Test.YtcjeodgfpnecgaaM10
import Derived.Test.YtcjeodgfpnecgaaM5
namespace Go.Proofs.Ytcjeodgfpnecgaa
open Go.RowKit
set_option linter.unusedVariables false
set_option linter.unusedSimpArgs false

def textB (s : ByteArray) : Bool := plainL s.data.toList && decide (1 ≤ s.size ∧ s.size ≤ 60)

/-- What TokenOk answers. -/
noncomputable def tokB (t : Tk) : Bool :=
  if t.kind = 1 then nameL t.name.data.toList && (attrsB t.attrs && decide (t.text.size = 0))
  else if t.kind = 2 then nameL t.name.data.toList && (decide (t.attrs.length = 0) && decide (t.text.size = 0))
  else if t.kind = 3 then decide (t.name.size = 0) && (decide (t.attrs.length = 0) && textB t.text)
  else false

theorem empty_beq (s : ByteArray) : (s.toList == (⟨#[]⟩ : ByteArray).toList) = decide (s.size = 0) := by
  rw [str_beq]
  by_cases h : s.size = 0
  · rw [decide_eq_true h]
    refine decide_eq_true (ByteArray.ext ?_)
    exact Array.eq_empty_of_size_eq_zero h
  · rw [decide_eq_false h]
    refine decide_eq_false (fun e => h ?_)
    rw [e]; rfl

theorem empty_is (s : ByteArray) : s.toList.isEmpty = decide (s.size = 0) := by
  have e : s.size = s.data.toList.length := rfl
  rw [ByteArray.toList_eq, e]
  cases s.data.toList <;> simp

theorem cL7Text (s : ByteArray) (w : World) (hs : s.size ≤ 1048576) :
    Calls Try.prog 32 #[.string s] w fun e w' => e = .returned (.bool (textB s)) ∧ w' = w := by
  have CP := fun w => c_spec_PlainOk s w (by unfold maxLen; omega)
  have CI := fun w => c_spec_In7 (s.size : Int) 1 60 w
  by_cases q : plainL s.data.toList = true
  · have e : textB s = decide ((1 : Int) ≤ (s.size : Int) ∧ (s.size : Int) ≤ 60) := by
      unfold textB; rw [q, Bool.true_and]; congr 1; exact propext (by omega)
    rw [e]
    rw [q] at CP
    obtain ⟨B, hB⟩ : ∃ B, decide ((1 : Int) ≤ (s.size : Int) ∧ (s.size : Int) ≤ 60) = B := ⟨_, rfl⟩
    rw [hB] at CI ⊢
    clear hB q e
    go_enter Try.func32, Try.ntmps32
    go_wp2_with fail
    refine (CP _).mono ?_
    rintro e w1 ⟨rfl, rfl⟩
    go_wp2_with fail
    refine (CI _).mono ?_
    rintro e w1 ⟨rfl, rfl⟩
    go_wp2_with fail
    go_ret
    exact ⟨rfl, rfl⟩
  · have q : plainL s.data.toList = false := by simpa using q
    rw [show textB s = false by unfold textB; rw [q]; rfl]
    rw [q] at CP
    clear q
    go_enter Try.func32, Try.ntmps32
    go_wp2_with fail
    refine (CP _).mono ?_
    rintro e w1 ⟨rfl, rfl⟩
    go_wp2_with fail
    go_ret
    exact ⟨rfl, rfl⟩

end Go.Proofs.Ytcjeodgfpnecgaa

namespace Go.Proofs.Ytcjeodgfpnecgaa
open Go.RowKit
set_option linter.unusedVariables false

/-- The parent of the node there. -/
def parI (ts : List Tk) (j : Nat) : Int := match ts[j]? with | some t => t.kind | none => -1

theorem parI_at {ts : List Tk} {j : Nat} (h : j < ts.length) : parI ts j = ts[j].kind := by unfold parI; rw [List.getElem?_eq_getElem h]

/-- The node there is an element. -/
def elN (ts : List Tk) (j : Nat) : Prop := ∃ h : j < ts.length, ¬ ts[j].name.size = 0

/-- The last of the first i nodes and all around it, the innermost first. -/
def chainF (ts : List Tk) : Nat → List Nat
  | 0 => []
  | i + 1 => i :: (chainF ts i).dropWhile (fun (j : Nat) => !decide ((j : Int) = parI ts i))

/-- Each is in the next one, the last is the first node. -/
def Linked (ts : List Tk) : List Nat → Prop
  | [] => False
  | [x] => x = 0
  | x :: y :: r => parI ts x = (y : Int) ∧ y < x ∧ Linked ts (y :: r)

theorem Linked.tail {ts : List Tk} {x y : Nat} {r : List Nat} (h : Linked ts (x :: y :: r)) : Linked ts (y :: r) := h.2.2

theorem Linked.le {ts : List Tk} : ∀ {c : List Nat} {x : Nat}, Linked ts (x :: c) → ∀ y ∈ x :: c, y ≤ x
  | [], x, h, y, hy => by rw [List.mem_singleton] at hy; omega
  | z :: r, x, h, y, hy => by
    rcases List.mem_cons.1 hy with rfl | hy
    · exact Nat.le_refl _
    · have := Linked.le (ts := ts) h.tail y hy
      have := h.2.1
      omega

theorem Linked.drop {ts : List Tk} : ∀ {c : List Nat}, Linked ts c → ∀ p, p ∈ c → ∃ r, c.dropWhile (fun (j : Nat) => !decide ((j : Int) = (p : Int))) = p :: r ∧ Linked ts (p :: r)
  | [], h, p, hp => absurd hp (by simp)
  | [x], h, p, hp => by
    rw [List.mem_singleton] at hp
    subst hp
    exact ⟨[], by simp, h⟩
  | x :: y :: r, h, p, hp => by
    by_cases e : x = p
    · subst e
      exact ⟨y :: r, by simp, h⟩
    · have hp' : p ∈ y :: r := by
        rcases List.mem_cons.1 hp with h' | h'
        · exact absurd h'.symm e
        · exact h'
      obtain ⟨r', e1, e2⟩ := Linked.drop h.tail p hp'
      refine ⟨r', ?_, e2⟩
      rw [List.dropWhile_cons, if_pos (by simp; omega)]
      exact e1

/-- The node may stand there: its parent is open, and an element. -/
def UpOk (ts : List Tk) (i : Nat) : Prop := i = 0 ∨ ∃ p, p ∈ chainF ts i ∧ (p : Int) = parI ts i ∧ elN ts p

theorem linked_next {ts : List Tk} {i : Nat} (h : Linked ts (chainF ts i)) (hu : UpOk ts i) (hi : ¬ i = 0) (hlt : ∀ p ∈ chainF ts i, p < i) : Linked ts (chainF ts (i + 1)) ∧ ∃ p r, chainF ts (i + 1) = i :: p :: r ∧ (p : Int) = parI ts i ∧ p < i := by
  rcases hu with h0 | ⟨p, hp, e, _⟩
  · exact absurd h0 hi
  · obtain ⟨r, e1, e2⟩ := h.drop p hp
    have e3 : chainF ts (i + 1) = i :: p :: r := by
      show i :: (chainF ts i).dropWhile (fun (j : Nat) => !decide ((j : Int) = parI ts i)) = _
      rw [← e, e1]
    rw [e3]
    exact ⟨⟨e.symm, hlt p hp, e2⟩, p, r, rfl, e, hlt p hp⟩

theorem chain_head (ts : List Tk) (i : Nat) : ∃ r, chainF ts (i + 1) = i :: r := ⟨_, rfl⟩

/-- Where all that stand ahead may stand there. -/
theorem linked_all {ts : List Tk} : ∀ i, (∀ j, j < i + 1 → UpOk ts j) → Linked ts (chainF ts (i + 1)) ∧ ∀ p ∈ chainF ts (i + 1), p < i + 1
  | 0, _ => ⟨rfl, fun p hp => by have : p ∈ [0] := hp; simp at this; omega⟩
  | i + 1, h => by
    obtain ⟨h1, h2⟩ := linked_all i (fun j hj => h j (by omega))
    obtain ⟨h3, p, r, e, _, _⟩ := linked_next h1 (h (i + 1) (by omega)) (by omega) h2
    refine ⟨h3, fun q hq => ?_⟩
    rw [e] at h3 hq
    have := h3.le q hq
    omega

/-- How deep. -/
noncomputable def depI (ts : List Tk) (i : Nat) : Int := open Classical in if UpOk ts i then ((chainF ts (i + 1)).length : Int) else 0

theorem depI_t {ts : List Tk} {i : Nat} (h : UpOk ts i) : depI ts i = ((chainF ts (i + 1)).length : Int) := by unfold depI; exact if_pos h

theorem depI_f {ts : List Tk} {i : Nat} (h : ¬ UpOk ts i) : depI ts i = 0 := by unfold depI; exact if_neg h

/-- A node that is right by itself. -/
noncomputable def nodeB (t : Tk) : Bool :=
  if t.name.size = 0 then decide (t.attrs.length = 0) && textB t.text else nameL t.name.data.toList && (attrsB t.attrs && decide (t.text.size = 0))

/-- The node and the one ahead of it are texts of one parent. -/
def TwinAt (ts : List Tk) (i : Nat) : Prop := ∃ (h : i < ts.length) (h0 : 0 < i), ts[i].name.size = 0 ∧ (ts[i - 1]'(by omega)).name.size = 0 ∧ (ts[i - 1]'(by omega)).kind = ts[i].kind

/-- The node may stand there, in all. -/
def NodeOk (ts : List Tk) (i : Nat) : Prop := (∃ h : i < ts.length, nodeB ts[i] = true) ∧ UpOk ts i ∧ (chainF ts (i + 1)).length ≤ 9 ∧ ¬ TwinAt ts i

/-- A tree. -/
def TreeP (ts : List Tk) : Prop := 1 ≤ ts.length ∧ ts.length ≤ 50 ∧ parI ts 0 = -1 ∧ elN ts 0 ∧ ∀ i, i < ts.length → NodeOk ts i

noncomputable def treeB (ts : List Tk) : Bool := open Classical in decide (TreeP ts)

theorem treeB_t {ts : List Tk} (h : TreeP ts) : treeB ts = true := by unfold treeB; simp [h]

theorem treeB_f {ts : List Tk} (h : ¬ TreeP ts) : treeB ts = false := by unfold treeB; simp [h]

end Go.Proofs.Ytcjeodgfpnecgaa
