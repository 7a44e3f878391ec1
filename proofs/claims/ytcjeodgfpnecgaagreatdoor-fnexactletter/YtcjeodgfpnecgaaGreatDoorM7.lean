/- Contract of TokenOk of the specification. What a tree is: who stands open around a node (plain mathematics). What a name means: declarations, which are right, which one is the nearest (mathematics alone). -/
import Derived.Test.YtcjeodgfpnecgaaGreatDoorM6
import Derived.Test.YtcjeodgfpnecgaaGreatDoorM3
import Derived.Test.YtcjeodgfpnecgaaGreatDoorM5
namespace Go.Proofs.YtcjeodgfpnecgaaGreatDoor
open Go.RowKit
set_option linter.unusedVariables false
set_option linter.unusedSimpArgs false

def textB (s : ByteArray) : Bool := plainL s.data.toList && decide (1 ≤ s.size ∧ s.size ≤ 60)

/-- What TokenOk answers. -/
noncomputable def tokB (t : Tk) : Bool :=
  if t.kind = 1 then nameL t.name.data.toList && (attrsB t.attrs && decide (t.text.size = 0))
  else if t.kind = 2 then nameL t.name.data.toList && (decide (t.attrs.length = 0) && decide (t.text.size = 0))
  else if t.kind = 3 then decide (t.name.size = 0) && (decide (t.attrs.length = 0) && textB t.text)
  else false

theorem empty_beq (s : ByteArray) : (s.toList == (⟨#[]⟩ : ByteArray).toList) = decide (s.size = 0) := by
  rw [str_beq]
  by_cases h : s.size = 0
  · rw [decide_eq_true h]
    refine decide_eq_true (ByteArray.ext ?_)
    exact Array.eq_empty_of_size_eq_zero h
  · rw [decide_eq_false h]
    refine decide_eq_false (fun e => h ?_)
    rw [e]; rfl

theorem empty_is (s : ByteArray) : s.toList.isEmpty = decide (s.size = 0) := by
  have e : s.size = s.data.toList.length := rfl
  rw [ByteArray.toList_eq, e]
  cases s.data.toList <;> simp

end Go.Proofs.YtcjeodgfpnecgaaGreatDoor

namespace Go.Proofs.YtcjeodgfpnecgaaGreatDoor
open Go.RowKit
set_option linter.unusedVariables false

/-- The parent of the node there. -/
def parI (ts : List Tk) (j : Nat) : Int := match ts[j]? with | some t => t.kind | none => -1

theorem parI_at {ts : List Tk} {j : Nat} (h : j < ts.length) : parI ts j = ts[j].kind := by unfold parI; rw [List.getElem?_eq_getElem h]

/-- The node there is an element. -/
def elN (ts : List Tk) (j : Nat) : Prop := ∃ h : j < ts.length, ¬ ts[j].name.size = 0

/-- The last of the first i nodes and all around it, the innermost first. -/
def chainF (ts : List Tk) : Nat → List Nat
  | 0 => []
  | i + 1 => i :: (chainF ts i).dropWhile (fun (j : Nat) => !decide ((j : Int) = parI ts i))

/-- Each is in the next one, the last is the first node. -/
def Linked (ts : List Tk) : List Nat → Prop
  | [] => False
  | [x] => x = 0
  | x :: y :: r => parI ts x = (y : Int) ∧ y < x ∧ Linked ts (y :: r)

theorem Linked.tail {ts : List Tk} {x y : Nat} {r : List Nat} (h : Linked ts (x :: y :: r)) : Linked ts (y :: r) := h.2.2

theorem Linked.le {ts : List Tk} : ∀ {c : List Nat} {x : Nat}, Linked ts (x :: c) → ∀ y ∈ x :: c, y ≤ x
  | [], x, h, y, hy => by rw [List.mem_singleton] at hy; omega
  | z :: r, x, h, y, hy => by
    rcases List.mem_cons.1 hy with rfl | hy
    · exact Nat.le_refl _
    · have := Linked.le (ts := ts) h.tail y hy
      have := h.2.1
      omega

theorem Linked.drop {ts : List Tk} : ∀ {c : List Nat}, Linked ts c → ∀ p, p ∈ c → ∃ r, c.dropWhile (fun (j : Nat) => !decide ((j : Int) = (p : Int))) = p :: r ∧ Linked ts (p :: r)
  | [], h, p, hp => absurd hp (by simp)
  | [x], h, p, hp => by
    rw [List.mem_singleton] at hp
    subst hp
    exact ⟨[], by simp, h⟩
  | x :: y :: r, h, p, hp => by
    by_cases e : x = p
    · subst e
      exact ⟨y :: r, by simp, h⟩
    · have hp' : p ∈ y :: r := by
        rcases List.mem_cons.1 hp with h' | h'
        · exact absurd h'.symm e
        · exact h'
      obtain ⟨r', e1, e2⟩ := Linked.drop h.tail p hp'
      refine ⟨r', ?_, e2⟩
      rw [List.dropWhile_cons, if_pos (by simp; omega)]
      exact e1

/-- The node may stand there: its parent is open, and an element. -/
def UpOk (ts : List Tk) (i : Nat) : Prop := i = 0 ∨ ∃ p, p ∈ chainF ts i ∧ (p : Int) = parI ts i ∧ elN ts p

theorem linked_next {ts : List Tk} {i : Nat} (h : Linked ts (chainF ts i)) (hu : UpOk ts i) (hi : ¬ i = 0) (hlt : ∀ p ∈ chainF ts i, p < i) : Linked ts (chainF ts (i + 1)) ∧ ∃ p r, chainF ts (i + 1) = i :: p :: r ∧ (p : Int) = parI ts i ∧ p < i := by
  rcases hu with h0 | ⟨p, hp, e, _⟩
  · exact absurd h0 hi
  · obtain ⟨r, e1, e2⟩ := h.drop p hp
    have e3 : chainF ts (i + 1) = i :: p :: r := by
      show i :: (chainF ts i).dropWhile (fun (j : Nat) => !decide ((j : Int) = parI ts i)) = _
      rw [← e, e1]
    rw [e3]
    exact ⟨⟨e.symm, hlt p hp, e2⟩, p, r, rfl, e, hlt p hp⟩

theorem chain_head (ts : List Tk) (i : Nat) : ∃ r, chainF ts (i + 1) = i :: r := ⟨_, rfl⟩

/-- Where all that stand ahead may stand there. -/
theorem linked_all {ts : List Tk} : ∀ i, (∀ j, j < i + 1 → UpOk ts j) → Linked ts (chainF ts (i + 1)) ∧ ∀ p ∈ chainF ts (i + 1), p < i + 1
  | 0, _ => ⟨rfl, fun p hp => by have : p ∈ [0] := hp; simp at this; omega⟩
  | i + 1, h => by
    obtain ⟨h1, h2⟩ := linked_all i (fun j hj => h j (by omega))
    obtain ⟨h3, p, r, e, _, _⟩ := linked_next h1 (h (i + 1) (by omega)) (by omega) h2
    refine ⟨h3, fun q hq => ?_⟩
    rw [e] at h3 hq
    have := h3.le q hq
    omega

/-- How deep. -/
noncomputable def depI (ts : List Tk) (i : Nat) : Int := open Classical in if UpOk ts i then ((chainF ts (i + 1)).length : Int) else 0

theorem depI_t {ts : List Tk} {i : Nat} (h : UpOk ts i) : depI ts i = ((chainF ts (i + 1)).length : Int) := by unfold depI; exact if_pos h

theorem depI_f {ts : List Tk} {i : Nat} (h : ¬ UpOk ts i) : depI ts i = 0 := by unfold depI; exact if_neg h

/-- A node that is right by itself. -/
noncomputable def nodeB (t : Tk) : Bool :=
  if t.name.size = 0 then decide (t.attrs.length = 0) && textB t.text else nameL t.name.data.toList && (attrsB t.attrs && decide (t.text.size = 0))

/-- The node and the one ahead of it are texts of one parent. -/
def TwinAt (ts : List Tk) (i : Nat) : Prop := ∃ (h : i < ts.length) (h0 : 0 < i), ts[i].name.size = 0 ∧ (ts[i - 1]'(by omega)).name.size = 0 ∧ (ts[i - 1]'(by omega)).kind = ts[i].kind

/-- The node may stand there, in all. -/
def NodeOk (ts : List Tk) (i : Nat) : Prop := (∃ h : i < ts.length, nodeB ts[i] = true) ∧ UpOk ts i ∧ (chainF ts (i + 1)).length ≤ 9 ∧ ¬ TwinAt ts i

/-- A tree. -/
def TreeP (ts : List Tk) : Prop := 1 ≤ ts.length ∧ ts.length ≤ 50 ∧ parI ts 0 = -1 ∧ elN ts 0 ∧ ∀ i, i < ts.length → NodeOk ts i

noncomputable def treeB (ts : List Tk) : Bool := open Classical in decide (TreeP ts)

theorem treeB_t {ts : List Tk} (h : TreeP ts) : treeB ts = true := by unfold treeB; simp [h]

theorem treeB_f {ts : List Tk} (h : ¬ TreeP ts) : treeB ts = false := by unfold treeB; simp [h]

end Go.Proofs.YtcjeodgfpnecgaaGreatDoor

namespace Go.Proofs.YtcjeodgfpnecgaaGreatDoor
set_option linter.unusedVariables false

/-- Every sign is one of these, and there are at most so many. -/
def ofB (signs : ByteArray) (most : Nat) (s : ByteArray) : Bool := s.data.toList.all (fun c => signs.data.toList.any fun d => decide (d = c)) && decide (s.size ≤ most)

def nsS : ByteArray := ⟨#[110, 115]⟩
def sgnS : ByteArray := ⟨#[97, 98, 99, 100, 101, 102, 103, 104, 105, 106, 107, 108, 109, 110, 111, 112, 113, 114, 115, 116, 117, 118, 119, 120, 121, 122, 48, 49, 50, 51, 52, 53, 54, 55, 56, 57, 47, 46]⟩

def preS (s : ByteArray) : ByteArray := ⟨(partP s.data.toList).toArray⟩
def locS (s : ByteArray) : ByteArray := ⟨(partL s.data.toList).toArray⟩

/-- The prefix that an attr declares. -/
noncomputable def declF (x : At) : Option ByteArray := open Classical in if x.name = nsS then some ⟨#[]⟩ else if preS x.name = nsS then some (locS x.name) else none

noncomputable def rightB (x : At) : Bool := match declF x with
  | none => true
  | some p => ofB sgnS 20 x.value && (decide (p.size = 0) || !decide (x.value.size = 0))

/-- It declares this one. -/
noncomputable def declB (p : ByteArray) (x : At) : Bool := open Classical in decide (declF x = some p)

/-- All attrs from an element on, outwards. -/
def upAts (ts : List Tk) (c : List Nat) : List At := c.flatMap fun j => match ts[j]? with | some t => t.attrs | none => []

/-- What a prefix means by these. -/
noncomputable def meanL (l : List At) (p : ByteArray) : Option ByteArray :=
  if l.all rightB then (match l.find? (declB p) with | some x => some x.value | none => if p.size = 0 then some ⟨#[]⟩ else none) else none

noncomputable def meanF (ts : List Tk) (k : Nat) (p : ByteArray) : Option ByteArray := meanL (upAts ts (chainF ts (k + 1))) p

/-- What the search holds behind these attrs. -/
structure Held (l : List At) (p : ByteArray) (m : ByteArray) (found set : Bool) : Prop where
  right : l.all rightB = true
  isSet : set = (l.find? (declB p)).isSome
  isM : m = ((l.find? (declB p)).map (·.value)).getD ⟨#[]⟩
  isF : found = (decide (p.size = 0) || set)

theorem Held.start (p : ByteArray) : Held [] p ⟨#[]⟩ (decide (p.size = 0)) false := ⟨rfl, rfl, rfl, by rw [Bool.or_false]⟩

theorem Held.next {l : List At} {p m : ByteArray} {found set : Bool} (h : Held l p m found set) {x : At} (hr : rightB x = true) (hx : (declB p x && !set) = false) : Held (l ++ [x]) p m found set := by
  have e : (l ++ [x]).find? (declB p) = l.find? (declB p) := by
    rw [List.find?_append]
    cases hf : l.find? (declB p) with
    | some y => rfl
    | none =>
      have hs : set = false := by rw [h.isSet, hf]; rfl
      rw [hs] at hx
      simp at hx
      simp [hx]
  exact ⟨by rw [List.all_append, h.right]; simp [hr], by rw [e]; exact h.isSet, by rw [e]; exact h.isM, h.isF⟩

theorem Held.hit {l : List At} {p m : ByteArray} {found : Bool} (h : Held l p m found false) {x : At} (hr : rightB x = true) (hx : declB p x = true) : Held (l ++ [x]) p x.value true true := by
  have hn : l.find? (declB p) = none := by
    cases hf : l.find? (declB p) with
    | some y => have := h.isSet; rw [hf] at this; cases this
    | none => rfl
  have e : (l ++ [x]).find? (declB p) = some x := by
    rw [List.find?_append, hn]
    simp [hx]
  exact ⟨by rw [List.all_append, h.right]; simp [hr], by rw [e]; rfl, by rw [e]; rfl, by rw [Bool.or_true]⟩

theorem Held.fin {l : List At} {p m : ByteArray} {found set : Bool} (h : Held l p m found set) : (meanL l p).getD ⟨#[]⟩ = m ∧ (meanL l p).isSome = found := by
  unfold meanL
  rw [if_pos h.right, h.isM, h.isF, h.isSet]
  cases hf : l.find? (declB p) with
  | some y => simp
  | none =>
    by_cases hp : p.size = 0
    · simp [hp]
    · simp [hp]

theorem mean_wrong {l : List At} {x : At} (hx : x ∈ l) (h : rightB x = false) (p : ByteArray) : meanL l p = none := by
  unfold meanL
  rw [if_neg]
  intro ha
  have := List.all_eq_true.1 ha x hx
  rw [h] at this
  cases this

/-- The attrs from one on are his and those further out. -/
theorem upAts_at {ts : List Tk} {c : List Nat} {m : Nat} (hm : m < c.length) (hc : c[m] < ts.length) : upAts ts (c.take (m + 1)) = upAts ts (c.take m) ++ ts[c[m]].attrs := by
  unfold upAts
  rw [List.take_succ_eq_append_getElem hm, List.flatMap_append]
  simp [List.getElem?_eq_getElem hc]

theorem upAts_mem {ts : List Tk} {c : List Nat} {m : Nat} (hm : m < c.length) (hc : c[m] < ts.length) {x : At} (hx : x ∈ ts[c[m]].attrs) : x ∈ upAts ts c := by
  unfold upAts
  exact List.mem_flatMap.2 ⟨c[m], List.getElem_mem hm, by rw [List.getElem?_eq_getElem hc]; exact hx⟩

end Go.Proofs.YtcjeodgfpnecgaaGreatDoor
