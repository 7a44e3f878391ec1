/- The tokens of a tree (plain mathematics). A row of tokens of which every list owns its memory: marks in it, set and held. -/
import Derived.Test.YtcjeodgfpnecgaaM13
import Derived.Test.YtcjeodgfpnecgaaM5
namespace Go.Proofs.Ytcjeodgfpnecgaa
set_option linter.unusedVariables false

def nodeAt (ts : List Tk) (k : Nat) : Tk := match ts[k]? with | some t => t | none => ⟨0, ⟨#[]⟩, [], ⟨#[]⟩⟩

theorem nodeAt_at {ts : List Tk} {k : Nat} (h : k < ts.length) : nodeAt ts k = ts[k] := by unfold nodeAt; rw [List.getElem?_eq_getElem h]

/-- TkOpen, TkClose and TkText of a node. -/
def opT (t : Tk) : Tk := ⟨1, t.name, t.attrs, ⟨#[]⟩⟩
def clT (t : Tk) : Tk := ⟨2, t.name, [], ⟨#[]⟩⟩
def txT (t : Tk) : Tk := ⟨3, ⟨#[]⟩, [], t.text⟩

/-- The tokens of the node there and of all that it has. -/
def tokN (ts : List Tk) : Nat → Nat → List Tk
  | 0, _ => []
  | f + 1, k => if (nodeAt ts k).name.size = 0 then [txT (nodeAt ts k)] else opT (nodeAt ts k) :: ((kidsTo ts k (endN ts k)).flatMap (tokN ts f) ++ [clT (nodeAt ts k)])

theorem endN_stop {ts : List Tk} {k : Nat} (h : k < ts.length) : endN ts k = ts.length ∨ parI ts (endN ts k) < (k : Int) := by
  rcases Nat.lt_or_ge (endN ts k) ts.length with h' | h'
  · right
    by_cases q : parI ts (endN ts k) < (k : Int)
    · exact q
    · exfalso
      have hle := endN_le h
      have key : ∀ m, k + 1 + m ≤ ts.length → ((ts.drop (k + 1)).takeWhile fun t => decide ((k : Int) ≤ t.kind)).length = m → k + 1 + m < ts.length → parI ts (k + 1 + m) < (k : Int) := by
        intro m hm hl hlt
        have hsub := List.takeWhile_append_dropWhile (p := fun t : Tk => decide ((k : Int) ≤ t.kind)) (l := ts.drop (k + 1))
        have hd : m < (ts.drop (k + 1)).length := by rw [List.length_drop]; omega
        have e1 : (ts.drop (k + 1))[m] = ts[k + 1 + m] := List.getElem_drop ..
        have hne : ((ts.drop (k + 1)).dropWhile fun t => decide ((k : Int) ≤ t.kind)) ≠ [] := by
          intro e0
          have := congrArg List.length hsub
          rw [List.length_append, e0, hl, List.length_nil] at this
          omega
        have hhd := List.head_dropWhile_not (fun t : Tk => decide ((k : Int) ≤ t.kind)) hne
        have e2 : ((ts.drop (k + 1)).dropWhile fun t => decide ((k : Int) ≤ t.kind)).head hne = ts[k + 1 + m] := by
          rw [← e1, List.head_eq_getElem]
          have : (ts.drop (k + 1))[m]? = some (((ts.drop (k + 1)).dropWhile fun t => decide ((k : Int) ≤ t.kind))[0]'(List.length_pos_iff.2 hne)) := by
            conv => lhs; rw [← hsub]
            rw [List.getElem?_append_right (by omega), hl, Nat.sub_self, List.getElem?_eq_getElem (List.length_pos_iff.2 hne)]
          rw [List.getElem?_eq_getElem hd] at this
          exact (Option.some.inj this).symm
        rw [e2] at hhd
        rw [parI_at hlt]
        simpa using hhd
      exact q (key _ hle.2 rfl h')
  · left
    have := endN_le h
    omega

theorem endN_min {ts : List Tk} {k e : Nat} (hk : k < ts.length) (he : k < e) (hp : e < ts.length → parI ts e < (k : Int)) (hle : e ≤ ts.length) : endN ts k ≤ e := by
  rcases Nat.lt_or_ge e (endN ts k) with h | h
  · exfalso
    have h2 := endN_le hk
    have h3 := hp (by omega)
    have h4 : (k : Int) ≤ parI ts e := by
      have hm : e - (k + 1) < ((ts.drop (k + 1)).takeWhile fun t => decide ((k : Int) ≤ t.kind)).length := by unfold endN at h; omega
      have h5 := List.all_eq_true.1 (List.all_takeWhile (p := fun t : Tk => decide ((k : Int) ≤ t.kind)) (l := ts.drop (k + 1))) _ (List.getElem_mem hm)
      have e1 : ((ts.drop (k + 1)).takeWhile fun t => decide ((k : Int) ≤ t.kind))[e - (k + 1)] = (ts.drop (k + 1))[e - (k + 1)]'(by rw [List.length_drop]; omega) :=
        (List.takeWhile_prefix _).getElem hm
      rw [e1, List.getElem_drop] at h5
      have e2 : k + 1 + (e - (k + 1)) = e := by omega
      simp only [e2] at h5
      rw [parI_at (by omega)]
      simpa using h5
    omega
  · exact h

/-- Of a kid: it ends ahead of the next one, and within. -/
theorem kid_end {ts : List Tk} {k i : Nat} (hk : k < ts.length) (hi : k < i) (hie : i < endN ts k) : endN ts i ≤ endN ts k ∧ ∀ j, i < j → j < ts.length → parI ts j = (k : Int) → endN ts i ≤ j := by
  have hle := endN_le hk
  refine ⟨?_, fun j hj hjn hp => ?_⟩
  · rcases endN_stop hk with h | h
    · rw [h]
      exact (endN_le (by omega)).2
    · exact endN_min (by omega) hie (fun _ => by omega) hle.2
  · exact endN_min (by omega) hj (fun _ => by omega) (by omega)

theorem kids_len {ts : List Tk} {k : Nat} (L : Nat → Nat) (hk : k < ts.length) (hL : ∀ i, k < i → i < endN ts k → L i ≤ 2 * (endN ts i - i)) :
    ∀ e, k < e → e ≤ endN ts k → ∃ m, k + 1 ≤ m ∧ m ≤ endN ts k ∧ ((kidsTo ts k e).map L).sum ≤ 2 * (m - (k + 1)) ∧ ∀ j, e ≤ j → j < endN ts k → parI ts j = (k : Int) → m ≤ j := by
  have hle := endN_le hk
  intro e
  induction e with
  | zero => intro h; omega
  | succ e ih =>
    intro h1 h2
    by_cases he : e = k
    · subst he
      refine ⟨e + 1, Nat.le_refl _, h2, ?_, fun j hj _ _ => by omega⟩
      rw [kidsTo_first]
      simp
    · obtain ⟨m, m1, m2, m3, m4⟩ := ih (by omega) (by omega)
      rw [kidsTo_next (by omega)]
      by_cases q : parI ts e = (k : Int)
      · rw [if_pos q, List.map_append, List.sum_append]
        obtain ⟨q1, q2⟩ := kid_end hk (show k < e by omega) (by omega)
        have hm := m4 e (Nat.le_refl _) (by omega) q
        have hl := hL e (by omega) (by omega)
        have he2 := endN_le (ts := ts) (k := e) (by omega)
        refine ⟨endN ts e, by omega, q1, ?_, fun j hj hjn hp => q2 j (by omega) (by omega) hp⟩
        simp only [List.map_cons, List.map_nil, List.sum_cons, List.sum_nil]
        omega
      · rw [if_neg q, List.append_nil]
        exact ⟨m, m1, m2, m3, fun j hj hjn hp => m4 j (by omega) hjn hp⟩

theorem flatMap_len {α β : Type} (f : α → List β) (l : List α) : (l.flatMap f).length = (l.map fun x => (f x).length).sum := by
  rw [List.length_flatMap]

theorem tokN_len {ts : List Tk} : ∀ f k, k < ts.length → (tokN ts f k).length ≤ 2 * (endN ts k - k)
  | 0, k, h => by simp [tokN]
  | f + 1, k, h => by
    have hle := endN_le h
    unfold tokN
    split
    · simp; omega
    · obtain ⟨m, m1, m2, m3, _⟩ := kids_len (fun i => (tokN ts f i).length) h (fun i h1 h2 => tokN_len f i (by omega)) (endN ts k) hle.1 (Nat.le_refl _)
      simp only [List.length_cons, List.length_append, List.length_nil, flatMap_len]
      omega

theorem tokKids_len {ts : List Tk} (f : Nat) {k e : Nat} (h : k < ts.length) (h1 : k < e) (h2 : e ≤ endN ts k) : ((kidsTo ts k e).flatMap (tokN ts f)).length ≤ 2 * (endN ts k - (k + 1)) := by
  obtain ⟨m, m1, m2, m3, _⟩ := kids_len (fun i => (tokN ts f i).length) h (fun i h1 h2 => tokN_len f i (by have := endN_le h; omega)) e h1 h2
  rw [flatMap_len]
  omega

theorem tokN_sz {ts : List Tk} (hz : TksSz 1048576 ts) : ∀ f k, TksSz 1048576 (tokN ts f k)
  | 0, k => fun t ht => by simp [tokN] at ht
  | f + 1, k => by
    have hk : TkSz 1048576 (nodeAt ts k) := by
      by_cases h : k < ts.length
      · rw [nodeAt_at h]; exact hz _ (List.getElem_mem h)
      · unfold nodeAt
        rw [List.getElem?_eq_none (by omega)]
        exact ⟨Nat.zero_le _, Nat.zero_le _, fun x hx => absurd hx List.not_mem_nil, Nat.zero_le _⟩
    obtain ⟨z1, z2, z3, z4⟩ := hk
    intro t ht
    unfold tokN at ht
    split at ht
    · rw [List.mem_singleton] at ht
      subst ht
      exact ⟨Nat.zero_le _, Nat.zero_le _, fun x hx => absurd hx List.not_mem_nil, z4⟩
    · rcases List.mem_cons.1 ht with rfl | ht
      · exact ⟨z1, z2, z3, Nat.zero_le _⟩
      · rcases List.mem_append.1 ht with ht | ht
        · obtain ⟨i, _, hi⟩ := List.mem_flatMap.1 ht
          exact tokN_sz hz f i t hi
        · rw [List.mem_singleton] at ht
          subst ht
          exact ⟨z1, Nat.zero_le _, fun x hx => absurd hx List.not_mem_nil, Nat.zero_le _⟩

end Go.Proofs.Ytcjeodgfpnecgaa

namespace Go.Proofs.Ytcjeodgfpnecgaa
open Go.RowKit
set_option linter.unusedVariables false
set_option linter.unusedSimpArgs false

/-- Where a row of tokens and their attrs lie. -/
structure Shape where
  R : Nat
  o : Nat
  n : Nat
  len : Nat → Nat
  aa : Nat → Option Addr
  A : Nat → Nat
  O : Nat → Nat
  C : Nat → Nat

/-- From block B on; no two lists in one block. -/
structure Shape.Ok (s : Shape) (B : Nat) : Prop where
  row : B ≤ s.R
  at_ : ∀ j, j < s.n → 0 < s.len j → s.aa j = some ⟨s.A j, s.O j, none⟩ ∧ B ≤ s.A j ∧ ¬ s.A j = s.R
  apart : ∀ i j, i < s.n → j < s.n → ¬ i = j → 0 < s.len i → 0 < s.len j → ¬ s.A i = s.A j

/-- The blocks of the row and of its lists. -/
def Shape.Has (s : Shape) (b : Nat) : Prop := b = s.R ∨ ∃ j, j < s.n ∧ 0 < s.len j ∧ b = s.A j

theorem Shape.Ok.has {s : Shape} {B : Nat} (h : s.Ok B) {b : Nat} (hb : s.Has b) : B ≤ b := by
  rcases hb with rfl | ⟨j, hj, hl, rfl⟩
  · exact h.row
  · exact (h.at_ j hj hl).2.1

structure TkCells (cur : Array Value) (p : Nat) (t : Tk) (aa : Option Addr) (cap : Nat) : Prop where
  c0 : cur[p]? = some (.int .i64 t.kind)
  c1 : cur[p + 1]? = some (.string t.name)
  c2 : cur[p + 2]? = some (.slice aa t.attrs.length cap)
  c3 : cur[p + 3]? = some (.string t.text)

/-- The tokens f lie there. -/
structure Shape.Holds (s : Shape) (w : World) (f : Nat → Tk) : Prop where
  row : ∃ cur, w.heap[s.R]? = some (.cells cur 50 (0, 0)) ∧ ∀ j, j < s.n → TkCells cur (s.o + j * 4) (f j) (s.aa j) (s.C j)
  len : ∀ j, j < s.n → (f j).attrs.length = s.len j
  ats : ∀ j, j < s.n → 0 < s.len j → ∃ cu, w.heap[s.A j]? = some (.cells cu 72 (0, 0)) ∧ AtCells cu (s.O j) (f j).attrs

theorem Shape.Holds.keep {s : Shape} {w w' : World} {f : Nat → Tk} {p : Nat → Prop} (h : s.Holds w f) (k : KeepB p w w') (h1 : ¬ p s.R) (h2 : ∀ j, j < s.n → 0 < s.len j → ¬ p (s.A j)) : s.Holds w' f := by
  obtain ⟨cur, hc, hr⟩ := h.row
  refine ⟨⟨cur, (k.block _ (lt_of_heap hc) h1).trans hc, hr⟩, h.len, fun j hj hl => ?_⟩
  obtain ⟨cu, hcu, ha⟩ := h.ats j hj hl
  exact ⟨cu, (k.block _ (lt_of_heap hcu) (h2 j hj hl)).trans hcu, ha⟩
-- over type 50

theorem Shape.Holds.below {s : Shape} {w w' : World} {f : Nat → Tk} (h : s.Holds w f) (k : Below w.heap.size w w') : s.Holds w' f :=
  h.keep (KeepB.of_below (fun _ => False) k) (fun x => x) (fun _ _ _ x => x)
-- over type 50

theorem Shape.Holds.atRow {s : Shape} {w : World} {f : Nat → Tk} {B : Nat} (h : s.Holds w f) (ok : s.Ok B) (j : Nat) (hj : j < s.n) : AtRow w (s.aa j) (f j).attrs := by
  intro m hm
  have hl : 0 < s.len j := by rw [← h.len j hj]; omega
  obtain ⟨cu, hcu, ha⟩ := h.ats j hj hl
  obtain ⟨c1, c2⟩ := ha m hm
  exact ⟨s.A j, s.O j, (ok.at_ j hj hl).1, lt_of_heap hcu, by rw [Lib.cell_of_heap hcu]; exact c1, by rw [Lib.cell_of_heap hcu]; exact c2⟩
-- over type 50

theorem Shape.Holds.tkRow {s : Shape} {w : World} {f : Nat → Tk} {B : Nat} {ts : List Tk} (h : s.Holds w f) (ok : s.Ok B) (hn : ts.length = s.n) (hf : ∀ j (hj : j < ts.length), f j = ts[j]) : TkRow w (some ⟨s.R, s.o, none⟩) ts := by
  intro j hj
  obtain ⟨cur, hc, hr⟩ := h.row
  have hjn : j < s.n := by omega
  have t := hr j hjn
  have ha := h.atRow ok j hjn
  rw [hf j hj] at t ha
  exact ⟨s.R, s.o, s.aa j, s.C j, rfl, lt_of_heap hc, by rw [Lib.cell_of_heap hc]; exact t.c0, by rw [Lib.cell_of_heap hc]; exact t.c1, by rw [Lib.cell_of_heap hc]; exact t.c2, by rw [Lib.cell_of_heap hc]; exact t.c3, ha⟩
-- over type 50

/-- Attrs that bear the marks from k on. -/
def mkAts (k n : Nat) : List At := (List.range n).map fun j => ⟨markS (k + 2 * j), markS (k + 2 * j + 1)⟩

theorem mkAts_len (k n : Nat) : (mkAts k n).length = n := by simp [mkAts]

theorem mkAts_get (k n j : Nat) (h : j < (mkAts k n).length) : (mkAts k n)[j].name = markS (k + 2 * j) ∧ (mkAts k n)[j].value = markS (k + 2 * j + 1) := by
  simp [mkAts]

/-- A token that bears the marks from k on. -/
def mkTk (k n : Nat) : Tk := ⟨k, markS (k + 1), mkAts (k + 2) n, markS (k + 2 + 2 * n)⟩

/-- The first mark of token j. -/
def Shape.K (s : Shape) (k : Nat) : Nat → Nat
  | 0 => k
  | j + 1 => Shape.K s k j + (3 + 2 * s.len j)

theorem Shape.K_le (s : Shape) (k : Nat) : ∀ j m, j ≤ m → s.K k j ≤ s.K k m := by
  intro j m h
  induction m with
  | zero =>
    have : j = 0 := by omega
    subst this; exact Nat.le_refl _
  | succ m ih =>
    rcases Nat.lt_or_eq_of_le h with h' | h'
    · have := ih (by omega)
      show s.K k j ≤ s.K k m + (3 + 2 * s.len m)
      omega
    · subst h'; exact Nat.le_refl _

theorem marksA_cells {cu : Array Value} {o n k : Nat} (h : MarksA cu o n k) : AtCells cu o (mkAts k n) := by
  intro m hm
  obtain ⟨h1, h2⟩ := mkAts_get k n m hm
  rw [mkAts_len] at hm
  rw [h1, h2]
  exact h m hm

end Go.Proofs.Ytcjeodgfpnecgaa
