/- Identifiers: what the document says of them, as functions of the nodes. Claims: what the document says of them, as functions of their fields. Contracts of the specification's l12Id, IdsOk, FindId, IdOf. -/
import Derived.Test.YtcjeodgfpnecgaaGreatDoorM10
namespace Go.Proofs.YtcjeodgfpnecgaaGreatDoor
open Go.RowKit
set_option linter.unusedVariables false
set_option linter.unusedSimpArgs false

def idS : ByteArray := ⟨#[73, 100]⟩
def idLS : ByteArray := ⟨#[97, 98, 99, 100, 101, 102, 103, 104, 105, 106, 107, 108, 109, 110, 111, 112, 113, 114, 115, 116, 117, 118, 119, 120, 121, 122, 48, 49, 50, 51, 52, 53, 54, 55, 56, 57]⟩

/-- A text that may be an identifier. -/
def idOk (s : ByteArray) : Bool := !decide (s.size = 0) && ofB idLS 12 s

/-- The identifier of that node. -/
def idAt (ts : List Tk) (k : Nat) : Option ByteArray := (ts[k]?).bind fun t => valF t.attrs idS

theorem idAt_at {ts : List Tk} {k : Nat} (h : k < ts.length) : idAt ts k = valF ts[k].attrs idS := by
  unfold idAt
  rw [List.getElem?_eq_getElem h]
  rfl

/-- The identifiers of the nodes before e, in their order. -/
def idsTo (ts : List Tk) (e : Nat) : List ByteArray := (List.range e).filterMap (idAt ts)

theorem idsTo_next (ts : List Tk) (e : Nat) : idsTo ts (e + 1) = idsTo ts e ++ (idAt ts e).toList := by
  unfold idsTo
  rw [List.range_succ, List.filterMap_append]
  cases h : idAt ts e with
  | none => rw [List.filterMap_cons_none h]; rfl
  | some v => rw [List.filterMap_cons_some h]; rfl

theorem idsTo_none {ts : List Tk} {e : Nat} (h : idAt ts e = none) : idsTo ts (e + 1) = idsTo ts e := by
  rw [idsTo_next, h]
  exact List.append_nil _

theorem idsTo_some {ts : List Tk} {e : Nat} {v : ByteArray} (h : idAt ts e = some v) : idsTo ts (e + 1) = idsTo ts e ++ [v] := by
  rw [idsTo_next, h]
  rfl

theorem idsTo_len (ts : List Tk) (e : Nat) : (idsTo ts e).length ≤ e := by
  have := List.length_filterMap_le (idAt ts) (List.range e)
  rw [List.length_range] at this
  exact this

theorem mem_idsTo {ts : List Tk} {e : Nat} {v : ByteArray} : v ∈ idsTo ts e ↔ ∃ k, k < e ∧ idAt ts k = some v := by
  unfold idsTo
  rw [List.mem_filterMap]
  exact ⟨fun ⟨k, h, q⟩ => ⟨k, List.mem_range.1 h, q⟩, fun ⟨k, h, q⟩ => ⟨k, List.mem_range.2 h, q⟩⟩

/-- All before e are right, and no two are alike. -/
def IdsP (ts : List Tk) (e : Nat) : Prop := (∀ v ∈ idsTo ts e, idOk v = true) ∧ (idsTo ts e).Nodup

theorem idsP_zero (ts : List Tk) : IdsP ts 0 := ⟨fun v h => absurd h List.not_mem_nil, List.nodup_nil⟩

theorem idsP_none {ts : List Tk} {e : Nat} (h : idAt ts e = none) (hP : IdsP ts e) : IdsP ts (e + 1) := by
  unfold IdsP
  rw [idsTo_none h]
  exact hP

theorem idsP_some {ts : List Tk} {e : Nat} {v : ByteArray} (h : idAt ts e = some v) (hP : IdsP ts e) (ho : idOk v = true) (hf : ¬ v ∈ idsTo ts e) : IdsP ts (e + 1) := by
  unfold IdsP
  rw [idsTo_some h]
  refine ⟨fun x hx => ?_, ?_⟩
  · rcases List.mem_append.1 hx with h' | h'
    · exact hP.1 x h'
    · rw [List.mem_singleton.1 h']; exact ho
  · rw [List.nodup_append]
    refine ⟨hP.2, by simp, fun x hx y hy => ?_⟩
    rw [List.mem_singleton.1 hy]
    exact fun e => hf (e ▸ hx)

theorem idsP_step {ts : List Tk} {e : Nat} (h : IdsP ts (e + 1)) : IdsP ts e := by
  unfold IdsP at h
  rw [idsTo_next] at h
  exact ⟨fun v hv => h.1 v (List.mem_append_left _ hv), (List.nodup_append.1 h.2).1⟩

theorem idsP_le {ts : List Tk} {e : Nat} : ∀ n, e ≤ n → IdsP ts n → IdsP ts e
  | 0, h, hP => by
    have : e = 0 := by omega
    subst this
    exact hP
  | n + 1, h, hP => by
    rcases Nat.lt_or_ge n e with h' | h'
    · have : e = n + 1 := by omega
      subst this
      exact hP
    · exact idsP_le n h' (idsP_step hP)

theorem idsP_bad {ts : List Tk} {e n : Nat} {v : ByteArray} (h : idAt ts e = some v) (he : e < n) (hb : idOk v = false ∨ v ∈ idsTo ts e) : ¬ IdsP ts n := by
  intro hP
  have h1 := idsP_le (e := e + 1) n he hP
  unfold IdsP at h1
  rw [idsTo_some h] at h1
  rcases hb with h' | h'
  · have := h1.1 v (by simp)
    rw [h'] at this
    cases this
  · exact (List.nodup_append.1 h1.2).2.2 v h' v (by simp) rfl

/-- No two nodes have the same identifier. -/
theorem ids_one {ts : List Tk} : ∀ {n : Nat}, IdsP ts n → ∀ {j k : Nat} {v : ByteArray}, j < n → k < n → idAt ts j = some v → idAt ts k = some v → j = k := by
  intro n hP j k v hj hk h1 h2
  rcases Nat.lt_trichotomy j k with h' | h' | h'
  · exact absurd hP (idsP_bad h2 hk (.inr (mem_idsTo.2 ⟨j, h', h1⟩)))
  · exact h'
  · exact absurd hP (idsP_bad h1 hj (.inr (mem_idsTo.2 ⟨k, h', h2⟩)))

noncomputable def idsB (ts : List Tk) : Bool := open Classical in decide (IdsP ts ts.length) && treeB ts

theorem idsB_f {ts : List Tk} (h : ¬ IdsP ts ts.length) : idsB ts = false := by unfold idsB; simp [h]

theorem idsB_is {ts : List Tk} (h : IdsP ts ts.length) : idsB ts = treeB ts := by unfold idsB; simp [h]

theorem idsB_t {ts : List Tk} (h : idsB ts = true) : IdsP ts ts.length ∧ treeB ts = true := by
  by_cases q : IdsP ts ts.length
  · exact ⟨q, by rw [← idsB_is q]; exact h⟩
  · rw [idsB_f q] at h; cases h

/-- Where the identifier stands, or -1. -/
def findN (ts : List Tk) (id : ByteArray) (n : Nat) : Int := match (List.range n).find? (fun k => decide (idAt ts k = some id)) with | some k => (k : Int) | none => -1

theorem findN_none {ts : List Tk} {id : ByteArray} {n : Nat} (h : ∀ j, j < n → ¬ idAt ts j = some id) : findN ts id n = -1 := by
  unfold findN
  rw [List.find?_eq_none.2 (fun x hx => by simpa using h x (List.mem_range.1 hx))]

theorem findN_at {ts : List Tk} {id : ByteArray} {n k : Nat} (hk : k < n) (h : ∀ j, j < k → ¬ idAt ts j = some id) (he : idAt ts k = some id) : findN ts id n = (k : Int) := by
  have e : (List.range n).find? (fun k => decide (idAt ts k = some id)) = some k := by
    rw [List.find?_range_eq_some]
    exact ⟨by simpa using he, List.mem_range.2 hk, fun j hj => by simpa using h j hj⟩
  unfold findN
  rw [e]

noncomputable def findI (ts : List Tk) (id : ByteArray) : Int := if idsB ts = true then findN ts id ts.length else -1

/-- The identifier of that node, or none. -/
noncomputable def idI (ts : List Tk) (x : Int) : ByteArray := if idsB ts = true ∧ 0 ≤ x ∧ x < ts.length then (idAt ts x.toNat).getD ByteArray.empty else ByteArray.empty

/-- The elements before e that bear that name. -/
noncomputable def allTo (ts : List Tk) (l m : ByteArray) (e : Nat) : List Nat := (List.range e).filter fun k => !decide ((nameI ts k).size = 0) && knownN ts k l m

theorem allTo_next (ts : List Tk) (l m : ByteArray) (e : Nat) : allTo ts l m (e + 1) = allTo ts l m e ++ (if (!decide ((nameI ts e).size = 0) && knownN ts e l m) = true then [e] else []) := by
  unfold allTo
  rw [List.range_succ, List.filter_append]
  congr 1
  cases q : (!decide ((nameI ts e).size = 0) && knownN ts e l m) with
  | false => rw [List.filter_cons_of_neg (by rw [q]; exact Bool.false_ne_true)]; rfl
  | true => rw [List.filter_cons_of_pos (by rw [q])]; rfl

theorem allTo_len (ts : List Tk) (l m : ByteArray) (e : Nat) : (allTo ts l m e).length ≤ e := by
  have := List.length_filter_le (fun k => !decide ((nameI ts k).size = 0) && knownN ts k l m) (List.range e)
  rw [List.length_range] at this
  exact this

noncomputable def allI (ts : List Tk) (l m : ByteArray) : List Nat := if namesB ts = true then allTo ts l m ts.length else []

theorem allI_len (ts : List Tk) (l m : ByteArray) : (allI ts l m).length ≤ ts.length := by
  unfold allI
  split
  · exact allTo_len ts l m _
  · exact Nat.zero_le _

end Go.Proofs.YtcjeodgfpnecgaaGreatDoor

namespace Go.Proofs.YtcjeodgfpnecgaaGreatDoor
open Go.RowKit
set_option linter.unusedVariables false
set_option linter.unusedSimpArgs false

/-- A claim. -/
structure Cm where
  id : ByteArray
  iss : ByteArray
  sub : ByteArray
  frm : Int
  til : Int
  whom : ByteArray
  ans : ByteArray
  facts : List At

/-- The claim as a value, its facts in that row. -/
def cmV (c : Cm) (a : Option Addr) (cap : Nat) : Value := .agg #[.string c.id, .string c.iss, .string c.sub, .int .i64 c.frm, .int .i64 c.til, .string c.whom, .string c.ans, .slice a c.facts.length cap]

/-- The sizes of a claim's fields. -/
def CmSz (m : Nat) (c : Cm) : Prop := c.id.size ≤ m ∧ c.iss.size ≤ m ∧ c.sub.size ≤ m ∧ c.whom.size ≤ m ∧ c.ans.size ≤ m ∧ c.facts.length ≤ m ∧ AtSz m c.facts

def wordLS : ByteArray := ⟨#[97, 98, 99, 100, 101, 102, 103, 104, 105, 106, 107, 108, 109, 110, 111, 112, 113, 114, 115, 116, 117, 118, 119, 120, 121, 122, 65, 66, 67, 68, 69, 70, 71, 72, 73, 74, 75, 76, 77, 78, 79, 80, 81, 82, 83, 84, 85, 86, 87, 88, 89, 90, 48, 49, 50, 51, 52, 53, 54, 55, 56, 57, 46, 64]⟩

/-- A word. -/
def wordB (s : ByteArray) : Bool := !decide (s.size = 0) && ofB wordLS 20 s

/-- A blank, or the byte 10. -/
def gapB (c : Int) : Bool := decide (c = 32) || decide (c = 10)

/-- The value of a fact is right. -/
def fvalB (s : ByteArray) : Bool := if h : 1 ≤ s.size ∧ s.size ≤ 30 then plainL s.data.toList && !gapB (s[0]'(by omega)).toNat && !gapB (s[s.size - 1]'(by omega)).toNat else false

/-- The fact there is right, and none ahead has its name. -/
def FactP (l : List At) (i : Nat) (h : i < l.length) : Prop := wordB l[i].name = true ∧ fvalB l[i].value = true ∧ ∀ (k : Nat) (hk : k < i), ¬ (l[k]'(by omega)).name = l[i].name

/-- The facts before e are right. -/
def FactsP (l : List At) (e : Nat) : Prop := ∀ (i : Nat) (h : i < l.length), i < e → FactP l i h

noncomputable def factsB (l : List At) : Bool := open Classical in decide (l.length ≤ 4) && decide (FactsP l l.length)

theorem factsB_f {l : List At} {i : Nat} (h : i < l.length) (hb : ¬ FactP l i h) : factsB l = false := by
  unfold factsB
  have : ¬ FactsP l l.length := fun hP => hb (hP i h h)
  simp [this]

theorem factsB_t {l : List At} (h4 : l.length ≤ 4) (h : FactsP l l.length) : factsB l = true := by
  unfold factsB
  simp [h4, h]

theorem factsB_4 {l : List At} (h4 : 4 < l.length) : factsB l = false := by
  unfold factsB
  have : ¬ l.length ≤ 4 := by omega
  simp [this]

theorem factsB_p {l : List At} (h : factsB l = true) : l.length ≤ 4 ∧ FactsP l l.length := by
  unfold factsB at h
  simp at h
  exact h

theorem factsP_zero (l : List At) : FactsP l 0 := fun i _ h => absurd h (Nat.not_lt_zero _)

theorem factsP_next {l : List At} {e : Nat} (hP : FactsP l e) (he : e < l.length) (h : FactP l e he) : FactsP l (e + 1) := fun i hi hlt => by
  rcases Nat.lt_or_eq_of_le (Nat.le_of_lt_succ hlt) with h' | rfl
  · exact hP i hi h'
  · exact h

def timeB (x : Int) : Bool := decide (0 ≤ x ∧ x ≤ 3155759999)

noncomputable def claimB (c : Cm) : Bool := idOk c.id && wordB c.iss && wordB c.sub && wordB c.whom && (decide (c.ans.size = 0) || idOk c.ans) && timeB c.frm && timeB c.til && factsB c.facts

end Go.Proofs.YtcjeodgfpnecgaaGreatDoor

namespace Go.Proofs.YtcjeodgfpnecgaaGreatDoor
open Go.RowKit
set_option linter.unusedVariables false
set_option linter.unusedSimpArgs false

set_option maxHeartbeats 2000000 in
theorem c_spec_l12Id (s : ByteArray) (w : World) (hs : s.size ≤ 1048576) :
    Calls Tryz.prog 15 #[.string s] w fun e w' => e = .returned (.bool (idOk s)) ∧ Below w.heap.size w w' := by
  have C := hid (fun wx => c_spec_l1Of idLS 12 s wx hs (by decide) (by decide))
  have E := empty_is s
  unfold idOk
  generalize ofB idLS 12 s = V at *
  cases q : decide (s.size = 0) with
  | true =>
    rw [q] at E
    clear q hs
    go_enter Tryz.func15, Tryz.ntmps15
    go_wp2_with fail
    go_ret
    exact ⟨rfl, Below.refl _ _⟩
  | false =>
    rw [q] at E
    clear q hs
    go_enter Tryz.func15, Tryz.ntmps15
    go_wp2_with fail
    refine (C.out _).mono ?_
    rintro e w1 ⟨rfl, hb1⟩
    have HB1 := hid hb1
    clear hb1 C
    go_wp2_with fail
    go_ret
    exact ⟨rfl, HB1.out⟩

/-- The attributes of a node in its row. -/
theorem ats_row {w : World} {a : Option Addr} {ts : List Tk} (h : TkRow w a ts) {k : Nat} (hk : k < ts.length) : ∃ b o aa ca, a = some ⟨b, o, none⟩ ∧ w.cell? ⟨b, o + k * 4 + 2, none⟩ = some (.slice aa ts[k].attrs.length ca) ∧ AtRow w aa ts[k].attrs := by
  obtain ⟨b, o, aa, ca, e, hb, q0, q1, q2, q3, q4⟩ := h k hk
  exact ⟨b, o, aa, ca, e, q2, q4⟩

theorem valF_mem {l : List At} {name v : ByteArray} (h : valF l name = some v) : ∃ x ∈ l, x.value = v := by
  unfold valF at h
  rw [Option.map_eq_some_iff] at h
  obtain ⟨x, hx, e⟩ := h
  exact ⟨x, List.mem_of_find?_eq_some hx, e⟩

theorem idAt_sz {ts : List Tk} (hz : TksSz 1048576 ts) {k : Nat} {v : ByteArray} (hk : k < ts.length) (h : idAt ts k = some v) : v.size ≤ 1048576 := by
  rw [idAt_at hk] at h
  obtain ⟨x, hx, rfl⟩ := valF_mem h
  exact ((hz _ (List.getElem_mem hk)).2.2.1 _ hx).2

end Go.Proofs.YtcjeodgfpnecgaaGreatDoor
