/- What the exact law of TokensOf asks of tokens: few, of few attrs. -/
import Derived.Test.YtkcmagfbacmllaaWShowS
import Derived.Test.YtkcmagfbacmllaaWShapeN
import Derived.Test.YtkcmagfbacmllaaWShapeT
namespace Go.Proofs.Ytkcmagfbacmllaa
open Go.RowKit
set_option linter.unusedVariables false

theorem toksT_len (ts : List Tk) : (toksT ts).length ≤ 100 := by
  unfold toksT
  split
  · rename_i h
    have ht := treeB_P h
    have h1 := ht.1
    have h2 := ht.2.1
    have h3 := tokN_len (ts := ts) ts.length 0 (by omega)
    have h4 := endN_le (ts := ts) (k := 0) (by omega)
    omega
  · exact Nat.zero_le _

theorem toksT_six (ts : List Tk) : ∀ t ∈ toksT ts, t.attrs.length ≤ 6 := by
  unfold toksT
  split
  · rename_i h
    exact tokN_six (tree_six (treeB_P h)) _ _
  · exact fun t ht => absurd ht List.not_mem_nil

theorem sumA_six {L : List Tk} (h : ∀ t ∈ L, t.attrs.length ≤ 6) : Tn.sumA L ≤ 6 * L.length := by
  unfold Tn.sumA
  induction L with
  | nil => simp
  | cons t L ih =>
    have := ih (fun x hx => h x (List.mem_cons_of_mem _ hx))
    have h2 := h t (List.mem_cons_self ..)
    simp only [List.map_cons, List.sum_cons, List.length_cons]
    omega

theorem sumA_tree {L : List Tk} (h : ∀ t ∈ L, t.attrs.length ≤ 6) : Nd.sumA L ≤ 6 * L.length := sumA_six h

/-- A row of tokens that grew, read. -/
theorem Tn.Row.rd {w : World} {B c : Nat} {a : Option Addr} {es : List Tn.E} {L : List Tk} (h : Tn.Row w B (.slice a es.length c) es) (hm : es.map (·.t) = L) : es.length = L.length ∧ TkRow w a L := by
  have hl : es.length = L.length := by rw [← hm, List.length_map]
  obtain ⟨a2, c2, e, ht⟩ := h.tkRow
  obtain ⟨rfl, rfl⟩ : a = a2 ∧ c = c2 := by cases e; exact ⟨rfl, rfl⟩
  rw [hm] at ht
  exact ⟨hl, ht⟩

theorem Nd.Row.rd {w : World} {B c : Nat} {a : Option Addr} {es : List Nd.E} {L : List Tk} (h : Nd.Row w B (.slice a es.length c) es) (hm : es.map (·.t) = L) : es.length = L.length ∧ TkRow w a L := by
  have hl : es.length = L.length := by rw [← hm, List.length_map]
  obtain ⟨a2, c2, e, ht⟩ := h.tkRow
  obtain ⟨rfl, rfl⟩ : a = a2 ∧ c = c2 := by cases e; exact ⟨rfl, rfl⟩
  rw [hm] at ht
  exact ⟨hl, ht⟩

/-- The blocks of a copy: from its own on, and there. -/
theorem Nd.Laid.has {ts : List Tk} {g : Nat} {G : Nat → Nat} {cur : Array Value} {w : World} (h : Nd.Laid ts g ts.length G cur w) (hh : w.heap[g]? = some (.cells cur 34 (0, 0))) : ∀ b, (Nd.shL g G ts).Has b → g ≤ b ∧ b < w.heap.size := by
  rintro b (rfl | ⟨j, hj, _, rfl⟩)
  · exact ⟨Nat.le_refl _, lt_of_heap hh⟩
  · obtain ⟨h1, cu, h2, _⟩ := h.row j hj hj
    have h3 := lt_of_heap h2
    exact ⟨by show g ≤ G j; omega, by show G j < w.heap.size; omega⟩

theorem Tn.Laid.has {ts : List Tk} {g : Nat} {G : Nat → Nat} {cur : Array Value} {w : World} (h : Tn.Laid ts g ts.length G cur w) (hh : w.heap[g]? = some (.cells cur 78 (0, 0))) : ∀ b, (Tn.shL g G ts).Has b → g ≤ b ∧ b < w.heap.size := by
  rintro b (rfl | ⟨j, hj, _, rfl⟩)
  · exact ⟨Nat.le_refl _, lt_of_heap hh⟩
  · obtain ⟨h1, cu, h2, _⟩ := h.row j hj hj
    have h3 := lt_of_heap h2
    exact ⟨by show g ≤ G j; omega, by show G j < w.heap.size; omega⟩

end Go.Proofs.Ytkcmagfbacmllaa
