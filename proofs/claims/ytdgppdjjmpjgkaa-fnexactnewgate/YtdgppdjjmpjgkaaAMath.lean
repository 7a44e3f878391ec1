/- Gates as mathematics. -/
import Derived.Test.YtdgppdjjmpjgkaaUMath
import Derived.Test.YtdgppdjjmpjgkaaABase
namespace Go.Proofs.Ytdgppdjjmpjgkaa
open Go.RowKit
set_option linter.unusedVariables false
set_option linter.unusedSimpArgs false

/-- A hand. -/
structure Hd where
  iss : ByteArray
  n : Int
  e : Int
  d : Int

/-- A gate. -/
structure Gt where
  name : ByteArray
  hands : List Hd
  skew : Int
  now : Int
  ask : Tb
  hrd : Tb

/-- Hands that can be read. -/
def HdRow (w : World) (a : Option Addr) (l : List Hd) : Prop :=
  ∀ j (h : j < l.length), ∃ b o, a = some ⟨b, o, none⟩ ∧ b < w.heap.size ∧ w.cell? ⟨b, o + j * 4, none⟩ = some (.string l[j].iss) ∧ w.cell? ⟨b, o + j * 4 + 1, none⟩ = some (.int .i64 l[j].n) ∧ w.cell? ⟨b, o + j * 4 + 2, none⟩ = some (.int .i64 l[j].e) ∧ w.cell? ⟨b, o + j * 4 + 3, none⟩ = some (.int .i64 l[j].d)

theorem HdRow.below {w w' : World} {a : Option Addr} {l : List Hd} (h : HdRow w a l) (hb : Below w.heap.size w w') : HdRow w' a l := by
  intro j hj
  obtain ⟨b, o, ha, hlt, c0, c1, c2, c3⟩ := h j hj
  exact ⟨b, o, ha, Nat.lt_of_lt_of_le hlt hb.size, (hb.cell (p := ⟨b, o + j * 4, none⟩) hlt).trans c0, (hb.cell (p := ⟨b, o + j * 4 + 1, none⟩) hlt).trans c1, (hb.cell (p := ⟨b, o + j * 4 + 2, none⟩) hlt).trans c2, (hb.cell (p := ⟨b, o + j * 4 + 3, none⟩) hlt).trans c3⟩

theorem HdRow.nil (w : World) (a : Option Addr) : HdRow w a [] := fun j h => absurd h (Nat.not_lt_zero j)

/-- Cells that hold hands. -/
def HdCells (cu : Array Value) (o : Nat) (l : List Hd) : Prop := ∀ m (h : m < l.length), cu[o + m * 4]? = some (.string l[m].iss) ∧ cu[o + m * 4 + 1]? = some (.int .i64 l[m].n) ∧ cu[o + m * 4 + 2]? = some (.int .i64 l[m].e) ∧ cu[o + m * 4 + 3]? = some (.int .i64 l[m].d)

theorem HdCells.row {w : World} {g o : Nat} {cu : Array Value} {T : TypeId} {l : List Hd} (h : HdCells cu o l) (hh : w.heap[g]? = some (.cells cu T (0, 0))) : HdRow w (some ⟨g, o, none⟩) l := fun j hj =>
  ⟨g, o, rfl, lt_of_heap hh, by rw [Lib.cell_of_heap hh]; exact (h j hj).1, by rw [Lib.cell_of_heap hh]; exact (h j hj).2.1, by rw [Lib.cell_of_heap hh]; exact (h j hj).2.2.1, by rw [Lib.cell_of_heap hh]; exact (h j hj).2.2.2⟩

/-- Issuers of at most so many bytes. -/
def HdSz (n : Nat) (l : List Hd) : Prop := ∀ x ∈ l, x.iss.size ≤ n

theorem HdSz.mono {n m : Nat} {l : List Hd} (h : HdSz n l) (hm : n ≤ m) : HdSz m l := fun x hx => Nat.le_trans (h x hx) hm

/-- A right hand. -/
def handB (h : Hd) : Bool := g_wordB h.iss && g_okB h.n h.e h.d && decide (h.d = 0)

/-- The hand there is right, and no one ahead has its issuer. -/
def HandAt (l : List Hd) (i : Nat) (h : i < l.length) : Prop := handB l[i] = true ∧ ∀ (k : Nat) (hk : k < i), ¬ (l[k]'(by omega)).iss = l[i].iss

def HandsP (l : List Hd) (n : Nat) : Prop := ∀ i (h : i < l.length), i < n → HandAt l i h

open Classical in
noncomputable def handsB (l : List Hd) : Bool := decide (l.length ≤ 4) && decide (HandsP l l.length)

theorem HandsP.zero (l : List Hd) : HandsP l 0 := fun i _ h => absurd h (Nat.not_lt_zero i)

theorem HandsP.step {l : List Hd} {n : Nat} (h : HandsP l n) (hn : n < l.length) (ha : HandAt l n hn) : HandsP l (n + 1) := fun i hi hin => by
  rcases Nat.lt_or_ge i n with q | q
  · exact h i hi q
  · obtain rfl : i = n := by omega
    exact ha

theorem handsB_t {l : List Hd} (h4 : l.length ≤ 4) (h : HandsP l l.length) : handsB l = true := by
  unfold handsB
  simp [h4, h]

theorem handsB_4 {l : List Hd} (h4 : ¬ l.length ≤ 4) : handsB l = false := by
  unfold handsB
  simp [h4]

theorem handsB_f {l : List Hd} {i : Nat} (hi : i < l.length) (h : ¬ HandAt l i hi) : handsB l = false := by
  have h2 : ¬ HandsP l l.length := fun hp => h (hp i hi hi)
  unfold handsB
  simp [h2]

theorem handsB_p {l : List Hd} (h : handsB l = true) : l.length ≤ 4 ∧ HandsP l l.length := by
  unfold handsB at h
  simp only [Bool.and_eq_true, decide_eq_true_eq] at h
  exact h

/-- Is the gate right? -/
noncomputable def gateB (g : Gt) : Bool := g_wordB g.name && (handsB g.hands && (g_skB g.skew && (utmB g.now && (tableB g.ask && tableB g.hrd))))

def zeroG : Gt := ⟨ByteArray.empty, [], 0, 0, zeroT, zeroT⟩

/-- A gate as a value. -/
def gtV (g : Gt) (ah : Option Addr) (ch : Nat) (aa : Option Addr) (ca : Nat) (ar : Option Addr) (cr : Nat) : Value :=
  .agg #[.string g.name, .slice ah g.hands.length ch, .int .i64 g.skew, .int .i64 g.now, .int .i64 g.ask.most, .slice aa g.ask.rows.length ca, .int .i64 g.hrd.most, .slice ar g.hrd.rows.length cr]

/-- What lies in a gate's box. -/
structure GtBox (w : World) (B : Nat) (x : ByteArray) (vh : Value) (sk nw am : Int) (va : Value) (hm : Int) (vr : Value) : Prop where
  lt : B < w.heap.size
  c0 : w.cell? ⟨B, 0, none⟩ = some (.string x)
  c1 : w.cell? ⟨B, 1, none⟩ = some vh
  c2 : w.cell? ⟨B, 2, none⟩ = some (.int .i64 sk)
  c3 : w.cell? ⟨B, 3, none⟩ = some (.int .i64 nw)
  c4 : w.cell? ⟨B, 4, none⟩ = some (.int .i64 am)
  c5 : w.cell? ⟨B, 5, none⟩ = some va
  c6 : w.cell? ⟨B, 6, none⟩ = some (.int .i64 hm)
  c7 : w.cell? ⟨B, 7, none⟩ = some vr

theorem GtBox.below {w w' : World} {B : Nat} {x : ByteArray} {vh : Value} {sk nw am : Int} {va : Value} {hm : Int} {vr : Value} (h : GtBox w B x vh sk nw am va hm vr) (hb : Below w.heap.size w w') : GtBox w' B x vh sk nw am va hm vr :=
  ⟨Nat.lt_of_lt_of_le h.lt hb.size, (hb.cell h.lt).trans h.c0, (hb.cell h.lt).trans h.c1, (hb.cell h.lt).trans h.c2, (hb.cell h.lt).trans h.c3, (hb.cell h.lt).trans h.c4, (hb.cell h.lt).trans h.c5, (hb.cell h.lt).trans h.c6, (hb.cell h.lt).trans h.c7⟩

theorem GtBox.of {w : World} {B : Nat} {x : ByteArray} {vh : Value} {sk nw am : Int} {va : Value} {hm : Int} {vr : Value} {T : TypeId} (h : w.heap[B]? = some (.cells #[.string x, vh, .int .i64 sk, .int .i64 nw, .int .i64 am, va, .int .i64 hm, vr] T (0, 0))) : GtBox w B x vh sk nw am va hm vr :=
  ⟨lt_of_heap h, Lib.cell_of_heap h _, Lib.cell_of_heap h _, Lib.cell_of_heap h _, Lib.cell_of_heap h _, Lib.cell_of_heap h _, Lib.cell_of_heap h _, Lib.cell_of_heap h _, Lib.cell_of_heap h _⟩

theorem GtBox.new (w : World) (x : ByteArray) (vh : Value) (sk nw am : Int) (va : Value) (hm : Int) (vr : Value) (T : TypeId) : GtBox (w.alloc (.cells #[.string x, vh, .int .i64 sk, .int .i64 nw, .int .i64 am, va, .int .i64 hm, vr] T)) w.heap.size x vh sk nw am va hm vr := GtBox.of (heap_alloc_new _ _)

/-- The first hand of that issuer, or -1. -/
def HandIs (l : List Hd) (x : ByteArray) (r : Int) : Prop := (r = -1 ∧ ∀ y ∈ l, ¬ y.iss = x) ∨ ∃ i, ∃ h : i < l.length, r = (i : Int) ∧ l[i].iss = x ∧ ∀ y ∈ l.take i, ¬ y.iss = x

theorem handIs_here {l : List Hd} {i : Nat} (hi : i < l.length) {r : Int} (h : HandIs l l[i].iss r) : (r = (i : Int)) ↔ ∀ (k : Nat) (hk : k < i), ¬ (l[k]'(by omega)).iss = l[i].iss := by
  rcases h with ⟨_, h1⟩ | ⟨j, hj, rfl, h1, h2⟩
  · exact absurd rfl (h1 _ (List.getElem_mem hi))
  · constructor
    · intro e k hk
      obtain rfl : j = i := by omega
      exact h2 _ (List.mem_take_iff_getElem.2 ⟨k, by omega, rfl⟩)
    · intro hk
      rcases Nat.lt_trichotomy j i with q | q | q
      · exact absurd h1 (hk j q)
      · rw [q]
      · exact absurd rfl (h2 _ (List.mem_take_iff_getElem.2 ⟨i, by omega, rfl⟩))

end Go.Proofs.Ytdgppdjjmpjgkaa
