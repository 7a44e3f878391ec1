/- Contract of the specification's Wrapped. What the exact laws of branches ask of what is answered: a tree, or nothing; few nodes, of few attrs. What a tree says as a claim, as a function of the nodes. -/
import Derived.Test.YtcjeodgfpnecgaaGreatDoorM34
import Derived.Test.YtcjeodgfpnecgaaGreatDoorM27
import Derived.Test.YtcjeodgfpnecgaaGreatDoorM30
import Derived.Test.YtcjeodgfpnecgaaGreatDoorM32
import Derived.Test.YtcjeodgfpnecgaaGreatDoorM13
import Derived.Test.YtcjeodgfpnecgaaGreatDoorM10
import Derived.Test.YtcjeodgfpnecgaaGreatDoorM15
import Derived.Test.YtcjeodgfpnecgaaGreatDoorM31
namespace Go.Proofs.YtcjeodgfpnecgaaGreatDoor
open Go.RowKit
set_option linter.unusedVariables false
set_option linter.unusedSimpArgs false

/-- The one that wraps. -/
def wrapN (name : ByteArray) : Tk := ⟨0, name, [], ⟨#[]⟩⟩

/-- A tree with one wrapped. -/
def wrapL (ts : List Tk) (k : Nat) (name : ByteArray) : List Tk := match ts[k]? with
  | some t => (putL ts k t.kind [wrapN name]).set (k + 1) (shK (k : Int) t)
  | none => ts

noncomputable def wrapB (ts : List Tk) (x : Int) (name : ByteArray) : Bool := decide (1 ≤ x) && (elemB ts x && (nameL name.data.toList && treeB (wrapL ts x.toNat name)))

noncomputable def wrapT (ts : List Tk) (x : Int) (name : ByteArray) : List Tk := if treeB ts then (if wrapB ts x name then wrapL ts x.toNat name else ts) else []

theorem wrapL_len {ts : List Tk} {k : Nat} {name : ByteArray} (hk : k < ts.length) : (wrapL ts k name).length = ts.length + 1 := by
  unfold wrapL
  rw [List.getElem?_eq_getElem hk]
  simp only
  rw [List.length_set, putL_len (by omega)]
  rfl

theorem wrapL_sz {ts : List Tk} {k : Nat} {name : ByteArray} (hk : k < ts.length) (hz : TksSz 1048576 ts) (hn : name.size ≤ 1048576) : TksSz 1048576 (wrapL ts k name) := by
  unfold wrapL
  rw [List.getElem?_eq_getElem hk]
  simp only
  intro t ht
  rcases List.mem_or_eq_of_mem_set ht with h' | h'
  · refine put_sz hz (fun u hu => ?_) t h'
    rw [List.mem_singleton] at hu
    subst hu
    exact ⟨hn, Nat.zero_le _, fun y hy => absurd hy List.not_mem_nil, Nat.zero_le _⟩
  · subst h'
    exact hz ts[k] (List.getElem_mem hk)

theorem wrap_row {w : World} {g : Nat} {name : ByteArray} (h : w.heap[g]? = some (.cells #[.int .i64 0, .string name, .slice none 0 0, .string ⟨#[]⟩] 44 (0, 0))) : TkRow w (some ⟨g, 0, none⟩) [wrapN name] := by
  intro j hj
  have hj0 : j = 0 := by simpa using hj
  subst hj0
  obtain ⟨⟨x0, x1, x2, x3⟩, _⟩ := box4 h
  exact ⟨g, 0, none, 0, rfl, lt_of_heap h, x0, x1, x2, x3, fun i hi => absurd hi (Nat.not_lt_zero _)⟩

end Go.Proofs.YtcjeodgfpnecgaaGreatDoor

namespace Go.Proofs.YtcjeodgfpnecgaaGreatDoor
open Go.RowKit
set_option linter.unusedVariables false

theorem Nd.Row.rdG {w : World} {B c : Nat} {a : Option Addr} {es : List Nd.E} {L : List Tk} (h : Nd.Row w B (.slice a es.length c) es) (hm : es.map (·.t) = L) : es.length = L.length ∧ TkRow w a L := by
  have hl : es.length = L.length := by rw [← hm, List.length_map]
  obtain ⟨a2, c2, e, ht⟩ := h.tkRow
  obtain ⟨rfl, rfl⟩ : a = a2 ∧ c = c2 := by cases e; exact ⟨rfl, rfl⟩
  rw [hm] at ht
  exact ⟨hl, ht⟩

/-- The blocks of a copy: from its own on, and there. -/
theorem Nd.Laid.hasG {ts : List Tk} {g : Nat} {G : Nat → Nat} {cur : Array Value} {w : World} (h : Nd.Laid ts g ts.length G cur w) (hh : w.heap[g]? = some (.cells cur 44 (0, 0))) : ∀ b, (Nd.shL g G ts).Has b → g ≤ b ∧ b < w.heap.size := by
  rintro b (rfl | ⟨j, hj, _, rfl⟩)
  · exact ⟨Nat.le_refl _, lt_of_heap hh⟩
  · obtain ⟨h1, cu, h2, _⟩ := h.row j hj hj
    have h3 := lt_of_heap h2
    exact ⟨Nat.le_of_lt h1, h3⟩

theorem sumG {L : List Tk} (h : ∀ t ∈ L, t.attrs.length ≤ 6) : Nd.sumA L ≤ 6 * L.length := by
  unfold Nd.sumA
  induction L with
  | nil => simp
  | cons t L ih =>
    have := ih (fun x hx => h x (List.mem_cons_of_mem _ hx))
    have h2 := h t (List.mem_cons_self ..)
    simp only [List.map_cons, List.sum_cons, List.length_cons]
    omega

theorem treeG {ts : List Tk} (h : treeB ts = true) : TreeP ts := by unfold treeB at h; simpa using h

/-- A tree, or nothing. -/
def AnsT (R : List Tk) : Prop := R = [] ∨ TreeP R

theorem AnsT.len {R : List Tk} (h : AnsT R) : R.length ≤ 50 := by
  rcases h with h | h
  · rw [h]; exact Nat.zero_le _
  · exact h.2.1

theorem AnsT.six {R : List Tk} (h : AnsT R) : ∀ t ∈ R, t.attrs.length ≤ 6 := by
  rcases h with h | h
  · rw [h]; exact fun t ht => absurd ht List.not_mem_nil
  · intro t ht
    obtain ⟨k, hk, rfl⟩ := List.getElem_of_mem ht
    obtain ⟨⟨_, hb⟩, _⟩ := h.2.2.2.2 k hk
    by_cases e : R[k].name.size = 0
    · rw [nodeB_tx e] at hb
      simp only [Bool.and_eq_true, decide_eq_true_eq] at hb
      omega
    · rw [nodeB_el e] at hb
      simp only [Bool.and_eq_true] at hb
      have h2 := hb.2.1
      unfold attrsB at h2
      have h3 : AttrsOk R[k].attrs := by simpa using h2
      exact h3.1

theorem ans_branch (ts : List Tk) (x : Int) : AnsT (branchI ts x) := by
  unfold branchI
  split
  · rename_i h
    obtain ⟨hT, k, rfl, hk⟩ := elemB_t h
    refine .inr (branch_tree hT hk ⟨hk, ?_⟩)
    unfold elemB at h
    rw [Bool.and_eq_true] at h
    have h2 := h.2
    rw [show (k : Int).toNat = k from rfl, nameI_at hk] at h2
    simpa using h2
  · exact .inl rfl

theorem sz_branch {ts : List Tk} {x : Int} (hz : TksSz 1048576 ts) : TksSz 1048576 (branchI ts x) := by
  unfold branchI
  split
  · exact segN_sz hz _
  · exact fun t ht => absurd ht List.not_mem_nil

theorem ans_prune (ts : List Tk) (x : Int) : AnsT (pruneT ts x) := by
  unfold pruneT
  split
  · rename_i h
    split
    · rename_i h2
      unfold pruneB at h2
      simp only [Bool.and_eq_true] at h2
      exact .inr (treeG h2.2.2)
    · exact .inr (treeG h)
  · exact .inl rfl

theorem sz_prune {ts : List Tk} {x : Int} (hz : TksSz 1048576 ts) : TksSz 1048576 (pruneT ts x) := by
  unfold pruneT
  split
  · rename_i h
    split
    · exact cutL_sz (treeG h) hz
    · exact hz
  · exact fun t ht => absurd ht List.not_mem_nil

theorem ans_graft (ts br : List Tk) (x : Int) : AnsT (graftL ts br x) := by
  unfold graftL
  split
  · rename_i h
    split
    · rename_i h2
      unfold graftB at h2
      simp only [Bool.and_eq_true] at h2
      exact .inr (treeG h2.2.2)
    · exact .inr (treeG h)
  · exact .inl rfl

theorem sz_graft {ts br : List Tk} {x : Int} (hz : TksSz 1048576 ts) (hz2 : TksSz 1048576 br) : TksSz 1048576 (graftL ts br x) := by
  unfold graftL
  split
  · split
    · exact put_sz hz hz2
    · exact hz
  · exact fun t ht => absurd ht List.not_mem_nil

theorem ans_wrap (ts : List Tk) (x : Int) (name : ByteArray) : AnsT (wrapT ts x name) := by
  unfold wrapT
  split
  · rename_i h
    split
    · rename_i h2
      unfold wrapB at h2
      simp only [Bool.and_eq_true] at h2
      exact .inr (treeG h2.2.2.2)
    · exact .inr (treeG h)
  · exact .inl rfl

theorem sz_wrap {ts : List Tk} {x : Int} {name : ByteArray} (hz : TksSz 1048576 ts) (hn : name.size ≤ 1048576) : TksSz 1048576 (wrapT ts x name) := by
  unfold wrapT
  split
  · split
    · rename_i h2
      unfold wrapB at h2
      simp only [Bool.and_eq_true] at h2
      obtain ⟨_, k, rfl, hk⟩ := elemB_t h2.2.1
      exact wrapL_sz hk hz hn
    · exact hz
  · exact fun t ht => absurd ht List.not_mem_nil

end Go.Proofs.YtcjeodgfpnecgaaGreatDoor

namespace Go.Proofs.YtcjeodgfpnecgaaGreatDoor
open Go.RowKit
set_option linter.unusedVariables false
set_option linter.unusedSimpArgs false

/-- A kid that is known so. -/
noncomputable def kidB (ts : List Tk) (loc : ByteArray) (j : Nat) : Bool := !decide ((nameI ts j).size = 0) && knownN ts j loc claimS

/-- The kids that are known so, in their order. -/
noncomputable def kidsK (ts : List Tk) (k : Nat) (loc : ByteArray) : List Nat := (kidsN ts k).filter (kidB ts loc)

noncomputable def kidsP (ts : List Tk) (l : List Nat) (loc : ByteArray) (q : Nat) : List Nat := (l.take q).filter (kidB ts loc)

theorem kidsP_next {ts : List Tk} {l : List Nat} {loc : ByteArray} {q : Nat} (h : q < l.length) : kidsP ts l loc (q + 1) = kidsP ts l loc q ++ (if kidB ts loc l[q] = true then [l[q]] else []) := by
  unfold kidsP
  rw [take_snocN h, List.filter_append]
  congr 1
  by_cases q : kidB ts loc l[q] = true
  · rw [if_pos q, List.filter_cons_of_pos q]
    rfl
  · rw [if_neg q, List.filter_cons_of_neg q]
    rfl

theorem kidsP_len (ts : List Tk) (l : List Nat) (loc : ByteArray) (q : Nat) : (kidsP ts l loc q).length ≤ q := by
  unfold kidsP
  have h1 := List.length_filter_le (kidB ts loc) (l.take q)
  have h2 := List.length_take_le q l
  omega

theorem kidsK_len (ts : List Tk) (k : Nat) (loc : ByteArray) : (kidsK ts k loc).length ≤ ts.length := by
  unfold kidsK kidsN kidsTo
  exact Nat.le_trans (List.length_filter_le _ _) (Nat.le_trans (List.length_filter_le _ _) (by rw [List.length_range]; exact Nat.le_refl _))

theorem kidsK_lt {ts : List Tk} {k : Nat} {loc : ByteArray} {j : Nat} (h : j ∈ kidsK ts k loc) : j < ts.length := kidsN_lt (List.mem_filter.1 h).1

/-- The text of a node, and its attrs. -/
noncomputable def txN (ts : List Tk) (j : Nat) : ByteArray := joinT ts (kidsN ts j)

def atN (ts : List Tk) (j : Nat) : List At := match ts[j]? with | some t => t.attrs | none => []

/-- The text of the first of these, or none. -/
noncomputable def fstT (ts : List Tk) (l : List Nat) : ByteArray := match l with | [] => nE | j :: _ => txN ts j

def valN (ts : List Tk) (j : Nat) (name : ByteArray) : ByteArray := (valF (atN ts j) name).getD ⟨#[]⟩

noncomputable def timN (ts : List Tk) (l : List Nat) (name : ByteArray) : Int × Bool := match l with | [] => (0, false) | j :: _ => timeOf (valN ts j name).data.toList

/-- The facts of these. -/
noncomputable def facN (ts : List Tk) (l : List Nat) : List At := l.map fun j => ⟨valN ts j nameS, txN ts j⟩

def hasNm (ts : List Tk) (j : Nat) : Bool := (valF (atN ts j) nameS).isSome

/-- The claim that is said, right or not. -/
noncomputable def qdC (ts : List Tk) (k : Nat) : Cm :=
  ⟨(valF (atN ts k) idS).getD ⟨#[]⟩, fstT ts (kidsK ts k (localN 0)), fstT ts (kidsK ts k (localN 1)), (timN ts (kidsK ts k (localN 2)) fromS).1, (timN ts (kidsK ts k (localN 2)) toS).1, fstT ts (kidsK ts k (localN 3)), fstT ts (kidsK ts k (localN 4)), facN ts (kidsK ts k (localN 5))⟩

/-- It is said whole. -/
def DecP (ts : List Tk) (k : Nat) : Prop :=
  (kidsK ts k (localN 0)).length = 1 ∧ (kidsK ts k (localN 1)).length = 1 ∧ (kidsK ts k (localN 2)).length = 1 ∧ (kidsK ts k (localN 3)).length = 1 ∧ (kidsK ts k (localN 4)).length ≤ 1 ∧ ((kidsK ts k (localN 4)).length = 1 → ¬ (fstT ts (kidsK ts k (localN 4))).size = 0) ∧
  (timN ts (kidsK ts k (localN 2)) fromS).2 = true ∧ (timN ts (kidsK ts k (localN 2)) toS).2 = true ∧ (∀ j ∈ kidsK ts k (localN 5), hasNm ts j = true) ∧ claimB (qdC ts k) = true

def zeroC : Cm := ⟨⟨#[]⟩, ⟨#[]⟩, ⟨#[]⟩, 0, 0, ⟨#[]⟩, ⟨#[]⟩, []⟩

noncomputable def qdB (ts : List Tk) (k : Nat) : Bool := open Classical in (!decide ((nameI ts k).size = 0) && knownN ts k (⟨#[67, 108, 97, 105, 109]⟩ : ByteArray) claimS && (valF (atN ts k) idS).isSome) && decide (DecP ts k)

noncomputable def qdA (ts : List Tk) (k : Nat) : Cm := if qdB ts k = true then qdC ts k else zeroC

noncomputable def qdI (ts : List Tk) (x : Int) : Bool := namesB ts && idsB ts && decide (0 ≤ x ∧ x < ts.length) && qdB ts x.toNat

noncomputable def qdV (ts : List Tk) (x : Int) : Cm := if qdI ts x = true then qdC ts x.toNat else zeroC

theorem qdB_no {ts : List Tk} {k : Nat} (h : ¬ DecP ts k) : qdB ts k = false := by
  unfold qdB
  simp [h]

theorem qdB_yes {ts : List Tk} {k : Nat} (h1 : (!decide ((nameI ts k).size = 0) && knownN ts k (⟨#[67, 108, 97, 105, 109]⟩ : ByteArray) claimS && (valF (atN ts k) idS).isSome) = true) (h : DecP ts k) : qdB ts k = true := by
  unfold qdB
  rw [h1]
  simp [h]

theorem qdB_head {ts : List Tk} {k : Nat} (h1 : (!decide ((nameI ts k).size = 0) && knownN ts k (⟨#[67, 108, 97, 105, 109]⟩ : ByteArray) claimS && (valF (atN ts k) idS).isSome) = false) : qdB ts k = false := by
  unfold qdB
  rw [h1]
  rfl

end Go.Proofs.YtcjeodgfpnecgaaGreatDoor
