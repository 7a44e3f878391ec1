/- Tables: what the document says of them, as functions of their fields. -/
import Derived.Test.YtdgppdjjmpjgkaaUBase
namespace Go.Proofs.Ytdgppdjjmpjgkaa
open Go.RowKit
set_option linter.unusedVariables false
set_option linter.unusedSimpArgs false

/-- A row of a table. -/
structure Ro where
  id : ByteArray
  til : Int

/-- A table. -/
structure Tb where
  most : Int
  rows : List Ro

/-- A table as a value, its rows in that row. -/
def tbV (t : Tb) (a : Option Addr) (cap : Nat) : Value := .agg #[.int .i64 t.most, .slice a t.rows.length cap]

/-- The rows lie in a row from a on. -/
def RoRow (w : World) (a : Option Addr) (l : List Ro) : Prop :=
  ∀ j (h : j < l.length), ∃ b o, a = some ⟨b, o, none⟩ ∧ b < w.heap.size ∧ w.cell? ⟨b, o + j * 2, none⟩ = some (.string l[j].id) ∧ w.cell? ⟨b, o + j * 2 + 1, none⟩ = some (.int .i64 l[j].til)

theorem RoRow.below {w w' : World} {a : Option Addr} {l : List Ro} (h : RoRow w a l) (hb : Below w.heap.size w w') : RoRow w' a l := by
  intro j hj
  obtain ⟨b, o, ha, hlt, hc, hd⟩ := h j hj
  exact ⟨b, o, ha, Nat.lt_of_lt_of_le hlt hb.size, (hb.cell (p := ⟨b, o + j * 2, none⟩) hlt).trans hc, (hb.cell (p := ⟨b, o + j * 2 + 1, none⟩) hlt).trans hd⟩

theorem RoRow.nil (w : World) (a : Option Addr) : RoRow w a [] := fun j h => absurd h (Nat.not_lt_zero _)

/-- The rows lie in these cells, from o on. -/
def RoCells (cu : Array Value) (o : Nat) (l : List Ro) : Prop := ∀ m (h : m < l.length), cu[o + m * 2]? = some (.string l[m].id) ∧ cu[o + m * 2 + 1]? = some (.int .i64 l[m].til)

theorem RoCells.row {w : World} {g o : Nat} {cu : Array Value} {T : TypeId} {l : List Ro} (h : RoCells cu o l) (hh : w.heap[g]? = some (.cells cu T (0, 0))) : RoRow w (some ⟨g, o, none⟩) l := fun j hj =>
  ⟨g, o, rfl, lt_of_heap hh, by rw [Lib.cell_of_heap hh]; exact (h j hj).1, by rw [Lib.cell_of_heap hh]; exact (h j hj).2⟩

/-- Ids of at most so many bytes. -/
def RoSz (n : Nat) (l : List Ro) : Prop := ∀ x ∈ l, x.id.size ≤ n

theorem RoSz.take {n : Nat} {l : List Ro} (h : RoSz n l) (k : Nat) : RoSz n (l.take k) := fun x hx => h x (List.mem_of_mem_take hx)
theorem RoSz.drop {n : Nat} {l : List Ro} (h : RoSz n l) (k : Nat) : RoSz n (l.drop k) := fun x hx => h x (List.mem_of_mem_drop hx)
theorem RoSz.mono {n m : Nat} {l : List Ro} (h : RoSz n l) (k : n ≤ m) : RoSz m l := fun x hx => Nat.le_trans (h x hx) k

def utmB (x : Int) : Bool := decide (0 ≤ x ∧ x ≤ 3155759999)

/-- A right row. -/
def roB (x : Ro) : Bool := u_idOk x.id && utmB x.til

/-- The row there is right, and its id is greater than the one ahead. -/
def RoAt (l : List Ro) (i : Nat) (h : i < l.length) : Prop := roB l[i] = true ∧ (0 < i → u_ltB (l[i - 1]'(by omega)).id l[i].id = true)

def RowsP (l : List Ro) (e : Nat) : Prop := ∀ (i : Nat) (h : i < l.length), i < e → RoAt l i h

noncomputable def rowsB (l : List Ro) : Bool := open Classical in decide (RowsP l l.length)

theorem rowsP_zero (l : List Ro) : RowsP l 0 := fun i _ h => absurd h (Nat.not_lt_zero _)

theorem rowsP_next {l : List Ro} {e : Nat} (hP : RowsP l e) (he : e < l.length) (h : RoAt l e he) : RowsP l (e + 1) := fun i hi hlt => by
  rcases Nat.lt_or_eq_of_le (Nat.le_of_lt_succ hlt) with h' | rfl
  · exact hP i hi h'
  · exact h

theorem rowsB_f {l : List Ro} {i : Nat} (h : i < l.length) (hb : ¬ RoAt l i h) : rowsB l = false := by
  unfold rowsB
  have : ¬ RowsP l l.length := fun hP => hb (hP i h h)
  simp [this]

theorem rowsB_t {l : List Ro} (h : RowsP l l.length) : rowsB l = true := by
  unfold rowsB
  simp [h]

theorem rowsB_p {l : List Ro} (h : rowsB l = true) : RowsP l l.length := by
  unfold rowsB at h
  simpa using h

def mostB (x : Int) : Bool := decide (1 ≤ x ∧ x ≤ 20)

noncomputable def tableB (t : Tb) : Bool := mostB t.most && decide ((t.rows.length : Int) ≤ t.most) && rowsB t.rows

theorem tableB_p {t : Tb} (h : tableB t = true) : (1 ≤ t.most ∧ t.most ≤ 20) ∧ (t.rows.length : Int) ≤ t.most ∧ RowsP t.rows t.rows.length := by
  unfold tableB mostB at h
  simp only [Bool.and_eq_true, decide_eq_true_eq] at h
  exact ⟨h.1.1, h.1.2, rowsB_p h.2⟩

theorem tableB_mk {t : Tb} (h1 : 1 ≤ t.most ∧ t.most ≤ 20) (h2 : (t.rows.length : Int) ≤ t.most) (h3 : RowsP t.rows t.rows.length) : tableB t = true := by
  unfold tableB mostB
  rw [decide_eq_true h1, decide_eq_true h2, rowsB_t h3]
  rfl

theorem tableB_len {t : Tb} (h : tableB t = true) : t.rows.length ≤ 20 := by
  obtain ⟨h1, h2, _⟩ := tableB_p h
  omega

theorem u_idOk_len {s : ByteArray} (h : u_idOk s = true) : s.size ≤ 12 := by
  unfold u_idOk u_ofB at h
  simp only [Bool.and_eq_true, decide_eq_true_eq] at h
  exact h.2.2

theorem tableB_sz {t : Tb} (h : tableB t = true) : RoSz 12 t.rows := fun x hx => by
  obtain ⟨i, hi, rfl⟩ := List.getElem_of_mem hx
  have h1 := ((tableB_p h).2.2 i hi hi).1
  unfold roB at h1
  simp only [Bool.and_eq_true] at h1
  exact u_idOk_len h1.1

/-- The ids rise. -/
theorem rise {l : List Ro} {e : Nat} (hP : RowsP l e) : ∀ {j i : Nat} (hi : i < l.length) (hj : j < i), i < e → u_ltB (l[j]'(by omega)).id l[i].id = true := by
  intro j i
  induction i with
  | zero => intro _ hj; exact absurd hj (Nat.not_lt_zero _)
  | succ i ih =>
    intro hi hj he
    have h1 := (hP (i + 1) hi he).2 (Nat.succ_pos _)
    have h1' : u_ltB (l[i]'(by omega)).id l[i + 1].id = true := h1
    rcases Nat.lt_or_eq_of_le (Nat.le_of_lt_succ hj) with h | h
    · exact u_ltB_trans (ih (by omega) h (by omega)) h1'
    · subst h
      exact h1'

/-- Where a row of that id is, or would be. -/
def findR (l : List Ro) (id : ByteArray) : Nat := (l.takeWhile fun x => u_ltB x.id id).length

theorem findR_le (l : List Ro) (id : ByteArray) : findR l id ≤ l.length := (List.takeWhile_sublist _).length_le

theorem findR_at {l : List Ro} {id : ByteArray} {k : Nat} (hk : k ≤ l.length) (h : ∀ j (hj : j < k), u_ltB (l[j]'(by omega)).id id = true) (he : ∀ (q : k < l.length), u_ltB l[k].id id = false) : findR l id = k := by
  unfold findR
  induction l generalizing k with
  | nil =>
    simp only [List.length_nil] at hk
    rw [List.takeWhile_nil, List.length_nil]
    omega
  | cons x l ih =>
    match k with
    | 0 =>
      have h0 : u_ltB x.id id = false := he (Nat.succ_pos _)
      rw [List.takeWhile_cons_of_neg (by rw [h0]; exact Bool.false_ne_true)]
      rfl
    | k + 1 =>
      have h0 : u_ltB x.id id = true := h 0 (Nat.succ_pos _)
      rw [List.takeWhile_cons_of_pos (by exact h0), List.length_cons, ih (k := k) (by simpa using hk) (fun j hj => h (j + 1) (by omega)) (fun q => he (by simpa using q))]

theorem findR_lt {l : List Ro} {id : ByteArray} : ∀ {j : Nat} (hj : j < findR l id), u_ltB (l[j]'(Nat.lt_of_lt_of_le hj (findR_le l id))).id id = true := by
  unfold findR
  induction l with
  | nil => intro j hj; simp at hj
  | cons x l ih =>
    intro j hj
    cases h0 : u_ltB x.id id with
    | false =>
      rw [List.takeWhile_cons_of_neg (by rw [h0]; exact Bool.false_ne_true)] at hj
      exact absurd hj (Nat.not_lt_zero _)
    | true =>
      match j with
      | 0 => exact h0
      | j + 1 =>
        rw [List.takeWhile_cons_of_pos (by exact h0), List.length_cons] at hj
        exact ih (by omega)

theorem findR_ge {l : List Ro} {id : ByteArray} (h : findR l id < l.length) : u_ltB (l[findR l id]).id id = false := by
  unfold findR at h ⊢
  induction l with
  | nil => simp at h
  | cons x l ih =>
    cases h0 : u_ltB x.id id with
    | false =>
      have e : List.takeWhile (fun x => u_ltB x.id id) (x :: l) = [] := List.takeWhile_cons_of_neg (by rw [h0]; exact Bool.false_ne_true)
      simp only [e, List.length_nil, List.getElem_cons_zero]
      exact h0
    | true =>
      have e : List.takeWhile (fun x => u_ltB x.id id) (x :: l) = x :: List.takeWhile (fun x => u_ltB x.id id) l := List.takeWhile_cons_of_pos (by exact h0)
      simp only [e, List.length_cons, List.getElem_cons_succ]
      exact ih (by rw [e] at h; simpa using h)

/-- Is it there? -/
noncomputable def isR (l : List Ro) (id : ByteArray) : Bool := if h : findR l id < l.length then (open Classical in decide ((l[findR l id]).id = id)) else false

theorem isR_some {l : List Ro} {id : ByteArray} (h : isR l id = true) : ∃ q : findR l id < l.length, (l[findR l id]).id = id := by
  unfold isR at h
  split at h
  · rename_i q
    exact ⟨q, by simpa using h⟩
  · cases h

theorem isR_len {l : List Ro} {id : ByteArray} (h : findR l id = l.length) : isR l id = false := by
  unfold isR
  rw [dif_neg (by omega)]

/-- Whose ids rise: it is there just where one bears it. -/
theorem isR_iff {l : List Ro} {id : ByteArray} (hP : RowsP l l.length) : isR l id = true ↔ ∃ x ∈ l, x.id = id := by
  constructor
  · intro h
    obtain ⟨q, e⟩ := isR_some h
    exact ⟨_, List.getElem_mem q, e⟩
  · rintro ⟨x, hx, rfl⟩
    obtain ⟨i, hi, rfl⟩ := List.getElem_of_mem hx
    have e : findR l l[i].id = i := findR_at (Nat.le_of_lt hi) (fun j hj => rise hP hi hj hi) (fun _ => u_ltB_irr _)
    unfold isR
    rw [dif_pos (by rw [e]; exact hi)]
    simp [e]

def insR (l : List Ro) (k : Nat) (x : Ro) : List Ro := l.take k ++ x :: l.drop k

theorem insR_len (l : List Ro) (k : Nat) (x : Ro) (h : k ≤ l.length) : (insR l k x).length = l.length + 1 := by
  unfold insR
  rw [List.length_append, List.length_cons, List.length_take, List.length_drop]
  omega

def zeroT : Tb := ⟨0, []⟩

/-- The row that is entered where it is to be. -/
noncomputable def enterT (t : Tb) (id : ByteArray) (til : Int) : Tb × Int :=
  if isR t.rows id = true then (t, 1) else if (t.rows.length : Int) = t.most then (t, 2) else (⟨t.most, insR t.rows (findR t.rows id) ⟨id, til⟩⟩, 0)

noncomputable def enteredT (t : Tb) (id : ByteArray) (til : Int) : Tb × Int :=
  if (tableB t && u_idOk id && utmB til) = true then enterT t id til else (zeroT, 3)

noncomputable def holdsT (t : Tb) (id : ByteArray) : Bool := tableB t && isR t.rows id

noncomputable def removeT (t : Tb) (id : ByteArray) : Tb × Bool :=
  if isR t.rows id = true then (⟨t.most, t.rows.take (findR t.rows id) ++ t.rows.drop (findR t.rows id + 1)⟩, true) else (t, false)

noncomputable def removedT (t : Tb) (id : ByteArray) : Tb × Bool := if tableB t = true then removeT t id else (zeroT, false)

def sweepR (l : List Ro) (now : Int) : List Ro := l.filter fun x => decide (now < x.til)

noncomputable def sweptT (t : Tb) (now : Int) : Tb := if (tableB t && utmB now) = true then ⟨t.most, sweepR t.rows now⟩ else zeroT

def newT (most : Int) : Tb × Bool := if mostB most = true then (⟨most, []⟩, true) else (zeroT, false)

/-- The rows are in memory of their own from B on. -/
def OwnRo (w : World) (B : Nat) (a : Option Addr) (l : List Ro) : Prop := 0 < l.length → ∃ g o cu, a = some ⟨g, o, none⟩ ∧ B ≤ g ∧ w.heap[g]? = some (.cells cu 74 (0, 0)) ∧ RoCells cu o l

theorem OwnRo.row {w : World} {B : Nat} {a : Option Addr} {l : List Ro} (h : OwnRo w B a l) : RoRow w a l := by
  intro j hj
  obtain ⟨g, o, cu, e, _, hh, hc⟩ := h (by omega)
  obtain ⟨c1, c2⟩ := hc j hj
  exact ⟨g, o, e, lt_of_heap hh, by rw [Lib.cell_of_heap hh]; exact c1, by rw [Lib.cell_of_heap hh]; exact c2⟩

theorem OwnRo.below {w w' : World} {B : Nat} {a : Option Addr} {l : List Ro} (h : OwnRo w B a l) (hb : Below w.heap.size w w') : OwnRo w' B a l := fun hl => by
  obtain ⟨g, o, cu, e1, e2, e3, e4⟩ := h hl
  exact ⟨g, o, cu, e1, e2, u_blk_below e3 hb, e4⟩

theorem OwnRo.keep {w w' : World} {B : Nat} {p : Nat → Prop} {a : Option Addr} {l : List Ro} (h : OwnRo w B a l) (hk : u_KeepB p w w') (hp : ∀ b, p b → b < B) : OwnRo w' B a l := fun hl => by
  obtain ⟨g, o, cu, e1, e2, e3, e4⟩ := h hl
  exact ⟨g, o, cu, e1, e2, (hk.block g (lt_of_heap e3) (fun e => by have := hp g e; omega)).trans e3, e4⟩

theorem OwnRo.mono {w : World} {B B' : Nat} {a : Option Addr} {l : List Ro} (h : OwnRo w B a l) (hB : B' ≤ B) : OwnRo w B' a l := fun hl => by
  obtain ⟨g, o, cu, e1, e2, e3, e4⟩ := h hl
  exact ⟨g, o, cu, e1, Nat.le_trans hB e2, e3, e4⟩

theorem OwnRo.nil (w : World) (B : Nat) (a : Option Addr) : OwnRo w B a [] := fun h => absurd h (Nat.lt_irrefl 0)

/-- The cells of rows. -/
def roC (l : List Ro) : List Value := l.flatMap fun x => [.string x.id, .int .i64 x.til]

theorem roC_len (l : List Ro) : (roC l).length = l.length * 2 := by
  induction l with
  | nil => rfl
  | cons x l ih => show (roC l).length + 2 = _; rw [ih, List.length_cons]; omega

theorem roC_app (a b : List Ro) : roC (a ++ b) = roC a ++ roC b := by unfold roC; rw [List.flatMap_append]

theorem roC_get (l : List Ro) (j : Nat) (h : j < l.length) : (roC l)[j * 2]? = some (.string l[j].id) ∧ (roC l)[j * 2 + 1]? = some (.int .i64 l[j].til) := by
  induction l generalizing j with
  | nil => simp at h
  | cons x l ih =>
    have e : roC (x :: l) = .string x.id :: .int .i64 x.til :: roC l := rfl
    rw [e]
    match j with
    | 0 => exact ⟨rfl, rfl⟩
    | j + 1 =>
      have h1 : (j + 1) * 2 = j * 2 + 1 + 1 := by omega
      have h2 : (j + 1) * 2 + 1 = (j * 2 + 1) + 1 + 1 := by omega
      rw [h2, h1]
      exact ih j (by simpa using h)

theorem roC_one (l : List Ro) : ∀ u ∈ roC l, u.oneCell' = true := by
  intro u hu
  unfold roC at hu
  obtain ⟨x, _, hx⟩ := List.mem_flatMap.1 hu
  simp at hx
  rcases hx with rfl | rfl <;> rfl

theorem own_ro {w : World} {B : Nat} {v : Value} {n : Nat} {l : List Ro} (h : w.ownsRow B 74 2 v n (roC l)) (hn : l.length = n) : ∃ a c, v = .slice a n c ∧ OwnRo w B a l := by
  rcases h.2 with ⟨rfl, rfl⟩ | ⟨g, cp, cur, rfl, hg, hh, hn', hc, hs, ht⟩
  · exact ⟨none, 0, rfl, fun hl => by omega⟩
  · refine ⟨_, cp, rfl, fun _ => ⟨g, 0, cur, rfl, hg, hh, fun j hj => ?_⟩⟩
    obtain ⟨g1, g2⟩ := roC_get l j hj
    rw [← ht, List.getElem?_take] at g1 g2
    refine ⟨?_, ?_⟩
    · rw [Nat.zero_add, ← Array.getElem?_toList]
      split at g1
      · exact g1
      · cases g1
    · rw [Nat.zero_add, ← Array.getElem?_toList]
      split at g2
      · exact g2
      · cases g2

end Go.Proofs.Ytdgppdjjmpjgkaa
