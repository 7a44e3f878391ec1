/- What a name means: declarations, which are right, which one is the nearest (mathematics alone). -/
import Derived.Test.YtlghhemmmjahnaaWTree
import Derived.Test.YtlghhemmmjahnaaSNClone
namespace Go.Proofs.Ytlghhemmmjahnaa
set_option linter.unusedVariables false

/-- Every sign is one of these, and there are at most so many. -/
def ofB (signs : ByteArray) (most : Nat) (s : ByteArray) : Bool := s.data.toList.all (fun c => signs.data.toList.any fun d => decide (d = c)) && decide (s.size ≤ most)

def nsS : ByteArray := ⟨#[110, 115]⟩
def sgnS : ByteArray := ⟨#[97, 98, 99, 100, 101, 102, 103, 104, 105, 106, 107, 108, 109, 110, 111, 112, 113, 114, 115, 116, 117, 118, 119, 120, 121, 122, 48, 49, 50, 51, 52, 53, 54, 55, 56, 57, 47, 46]⟩

def preS (s : ByteArray) : ByteArray := ⟨(partP s.data.toList).toArray⟩
def locS (s : ByteArray) : ByteArray := ⟨(partL s.data.toList).toArray⟩

/-- The prefix that an attr declares. -/
noncomputable def declF (x : At) : Option ByteArray := open Classical in if x.name = nsS then some ⟨#[]⟩ else if preS x.name = nsS then some (locS x.name) else none

noncomputable def rightB (x : At) : Bool := match declF x with
  | none => true
  | some p => ofB sgnS 20 x.value && (decide (p.size = 0) || !decide (x.value.size = 0))

/-- It declares this one. -/
noncomputable def declB (p : ByteArray) (x : At) : Bool := open Classical in decide (declF x = some p)

/-- All attrs from an element on, outwards. -/
def upAts (ts : List Tk) (c : List Nat) : List At := c.flatMap fun j => match ts[j]? with | some t => t.attrs | none => []

/-- What a prefix means by these. -/
noncomputable def meanL (l : List At) (p : ByteArray) : Option ByteArray :=
  if l.all rightB then (match l.find? (declB p) with | some x => some x.value | none => if p.size = 0 then some ⟨#[]⟩ else none) else none

noncomputable def meanF (ts : List Tk) (k : Nat) (p : ByteArray) : Option ByteArray := meanL (upAts ts (chainF ts (k + 1))) p

/-- What the search holds behind these attrs. -/
structure Held (l : List At) (p : ByteArray) (m : ByteArray) (found set : Bool) : Prop where
  right : l.all rightB = true
  isSet : set = (l.find? (declB p)).isSome
  isM : m = ((l.find? (declB p)).map (·.value)).getD ⟨#[]⟩
  isF : found = (decide (p.size = 0) || set)

theorem Held.start (p : ByteArray) : Held [] p ⟨#[]⟩ (decide (p.size = 0)) false := ⟨rfl, rfl, rfl, by rw [Bool.or_false]⟩

theorem Held.next {l : List At} {p m : ByteArray} {found set : Bool} (h : Held l p m found set) {x : At} (hr : rightB x = true) (hx : (declB p x && !set) = false) : Held (l ++ [x]) p m found set := by
  have e : (l ++ [x]).find? (declB p) = l.find? (declB p) := by
    rw [List.find?_append]
    cases hf : l.find? (declB p) with
    | some y => rfl
    | none =>
      have hs : set = false := by rw [h.isSet, hf]; rfl
      rw [hs] at hx
      simp at hx
      simp [hx]
  exact ⟨by rw [List.all_append, h.right]; simp [hr], by rw [e]; exact h.isSet, by rw [e]; exact h.isM, h.isF⟩

theorem Held.hit {l : List At} {p m : ByteArray} {found : Bool} (h : Held l p m found false) {x : At} (hr : rightB x = true) (hx : declB p x = true) : Held (l ++ [x]) p x.value true true := by
  have hn : l.find? (declB p) = none := by
    cases hf : l.find? (declB p) with
    | some y => have := h.isSet; rw [hf] at this; cases this
    | none => rfl
  have e : (l ++ [x]).find? (declB p) = some x := by
    rw [List.find?_append, hn]
    simp [hx]
  exact ⟨by rw [List.all_append, h.right]; simp [hr], by rw [e]; rfl, by rw [e]; rfl, by rw [Bool.or_true]⟩

theorem Held.fin {l : List At} {p m : ByteArray} {found set : Bool} (h : Held l p m found set) : (meanL l p).getD ⟨#[]⟩ = m ∧ (meanL l p).isSome = found := by
  unfold meanL
  rw [if_pos h.right, h.isM, h.isF, h.isSet]
  cases hf : l.find? (declB p) with
  | some y => simp
  | none =>
    by_cases hp : p.size = 0
    · simp [hp]
    · simp [hp]

theorem mean_wrong {l : List At} {x : At} (hx : x ∈ l) (h : rightB x = false) (p : ByteArray) : meanL l p = none := by
  unfold meanL
  rw [if_neg]
  intro ha
  have := List.all_eq_true.1 ha x hx
  rw [h] at this
  cases this

/-- The attrs from one on are his and those further out. -/
theorem upAts_at {ts : List Tk} {c : List Nat} {m : Nat} (hm : m < c.length) (hc : c[m] < ts.length) : upAts ts (c.take (m + 1)) = upAts ts (c.take m) ++ ts[c[m]].attrs := by
  unfold upAts
  rw [List.take_succ_eq_append_getElem hm, List.flatMap_append]
  simp [List.getElem?_eq_getElem hc]

theorem upAts_mem {ts : List Tk} {c : List Nat} {m : Nat} (hm : m < c.length) (hc : c[m] < ts.length) {x : At} (hx : x ∈ ts[c[m]].attrs) : x ∈ upAts ts c := by
  unfold upAts
  exact List.mem_flatMap.2 ⟨c[m], List.getElem_mem hm, by rw [List.getElem?_eq_getElem hc]; exact hx⟩

end Go.Proofs.Ytlghhemmmjahnaa
