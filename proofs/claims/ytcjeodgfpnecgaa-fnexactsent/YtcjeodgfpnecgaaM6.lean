/- A row of nodes among the arguments, opened. Plain mathematics of names: letters, a text split at colons, a name and its two parts. -/
import Derived.Test.YtcjeodgfpnecgaaM5
import Derived.Test.YtcjeodgfpnecgaaM3
import Derived.ProofKit
import Derived.OpenShut
import Derived.WalkKit
namespace Go.Proofs.Ytcjeodgfpnecgaa.Nd
open Go.ChangeShapes Go.WideShapes Go.ChangeAt Go.RowKit
set_option linter.unusedVariables false

set_option maxRecDepth 100000 in
theorem rows_of {H : Type} {enc : TypeId × Value → H} {W : World} {fuel : Nat} {v : Value} {x : DataW H × List MemPlace}
    (h : DataW.trod enc Try.prog W 0 (fun _ => true) true fuel 22 [v] = some x) (hlt : ∀ y ∈ x.2, y.block < W.heap.size) :
    ∃ (a : Option Addr) (cap : Nat) (ts : List Tk), v = .slice a ts.length cap ∧ ts.length ≤ maxLen ∧ TkRow W a ts ∧ TksSz maxLen ts ∧ ∀ t ∈ ts, (Lit.int .i64 t.kind).wf = true := by
  rcases Deep.open_slice Try.underlying22 h with ⟨hcs, hx⟩ | ⟨a, len, cap, m, n, D, Pl, hcs, _, hl, hm, hmm, hx, hall⟩
  · simp only [List.cons.injEq, and_true] at hcs
    subst hcs
    exact ⟨none, 0, [], rfl, by simp, fun j h => by simp at h, fun s h => by simp at h, fun s h => by simp at h⟩
  · simp only [List.cons.injEq, and_true] at hcs
    subst hcs
    simp only [if_true] at hmm
    subst hmm
    have ce : Try.prog.cellsOf 32 = 4 := by kernel_rfl
    have cA : Try.prog.cellsOf 30 = 1 := by kernel_rfl
    have cI : Try.prog.cellsOf 2 = 1 := by kernel_rfl
    have cS : Try.prog.cellsOf 9 = 1 := by kernel_rfl
    have each : ∀ i, i < m → ∃ q : Tk × Option Addr × Nat, W.cell? (a.add (i * 4)) = some (.int .i64 q.1.kind) ∧ W.cell? (a.add (i * 4 + 1)) = some (.string q.1.name) ∧ W.cell? (a.add (i * 4 + 2)) = some (.slice q.2.1 q.1.attrs.length q.2.2) ∧ W.cell? (a.add (i * 4 + 3)) = some (.string q.1.text)
        ∧ AtRow W q.2.1 q.1.attrs ∧ TkSz maxLen q.1 ∧ (Lit.int .i64 q.1.kind).wf = true := by
      intro i hi
      obtain ⟨cs', h1, h2⟩ := hall i hi
      rw [ce] at h1
      obtain ⟨_, hlen, hcell⟩ := World.cells?_some h1
      obtain ⟨xs, k, hk, hxy, _, hxl, hf⟩ := DataW.trod_struct Try.underlying32 h2
      have hpl : ∀ y ∈ Pl i, y.block < W.heap.size := fun y hy => hlt y (by rw [hx]; exact List.mem_append_right _ (List.mem_flatMap.2 ⟨i, List.mem_range.2 hi, hy⟩))
      match xs, hxl, cs', hlen with
      | [y0, y1, y2, y3], _, [v0, v1, v2, v3], _ =>
        have g0 := hf 0 _ rfl
        have g1 := hf 1 _ rfl
        have g2 := hf 2 _ rfl
        have g3 := hf 3 _ rfl
        simp [cA, cI, cS] at g0 g1 g2 g3
        have e0 := hcell 0 (by omega)
        have e1 := hcell 1 (by omega)
        have e2 := hcell 2 (by omega)
        have e3 := hcell 3 (by omega)
        rw [Deep.add_add] at e0 e1 e2 e3
        simp only [Prod.mk.injEq] at hxy
        obtain ⟨k0, hk0, _, wk⟩ := DataW.trod_int Try.underlying2 g0
        obtain ⟨s, hs, _, ws⟩ := DataW.trod_string Try.underlying9 g1
        obtain ⟨u, hu, _, wu⟩ := DataW.trod_string Try.underlying9 g3
        obtain ⟨aa, ca, l, rfl, wn, wr, wz⟩ := attrs_of g2 (fun y hy => hpl y (by rw [hxy.2]; simp [hy]))
        simp only [List.cons.injEq, and_true] at hk0 hs hu
        subst hk0 hs hu
        exact ⟨(⟨k0, s, l, u⟩, aa, ca), by simpa using e0, by simpa using e1, by simpa using e2, by simpa using e3, wr, ⟨ws, wn, wz, wu⟩, wk⟩
    haveI : Inhabited (Tk × Option Addr × Nat) := ⟨(⟨0, ⟨#[]⟩, [], ⟨#[]⟩⟩, none, 0)⟩
    obtain ⟨q, hq⟩ := Deep.choose_lt each
    refine ⟨some a, m, (List.range len).map fun i => (q i).1, by simp, by simp; omega, fun j hj => ?_, fun y hy => ?_, fun y hy => ?_⟩
    · simp only [List.length_map, List.length_range] at hj
      obtain ⟨b, off, spot⟩ := a
      obtain ⟨c0, c1, c2, c3, cr, _⟩ := hq j (by omega)
      have hspot : spot = none := by simpa [Addr.add] using World.cell?_spot (hq 0 (by omega)).1
      subst hspot
      rw [add_plain] at c0 c1 c2 c3
      refine ⟨b, off, (q j).2.1, (q j).2.2, rfl, hlt (.cell b off) (by rw [hx, ce]; exact List.mem_append_left _ (MemPlace.mem_row.2 ⟨0, by omega, by simp⟩)), ?_, ?_, ?_, ?_, ?_⟩
      · rw [c0]; simp
      · rw [← Nat.add_assoc] at c1; rw [c1]; simp
      · rw [← Nat.add_assoc] at c2; rw [c2]; simp
      · rw [← Nat.add_assoc] at c3; rw [c3]; simp
      · simpa using cr
    · obtain ⟨i, hi, rfl⟩ := List.mem_map.1 hy
      exact (hq i (by have := List.mem_range.1 hi; omega)).2.2.2.2.2.1
    · obtain ⟨i, hi, rfl⟩ := List.mem_map.1 hy
      exact (hq i (by have := List.mem_range.1 hi; omega)).2.2.2.2.2.2

theorem rows_arg {H : Type} {enc : TypeId × Value → H} {W : World} {v : Value} {d : DataW H} {p : List MemPlace}
    (h : DataW.Trod enc Try.prog W 0 (fun _ => true) true 22 v d p) (hv : ∃ a len cap, v = .slice a len cap) (hlt : ∀ y ∈ p, y.block < W.heap.size) :
    ∃ (a : Option Addr) (cap : Nat) (ts : List Tk), v = .slice a ts.length cap ∧ ts.length ≤ maxLen ∧ TkRow W a ts ∧ TksSz maxLen ts ∧ ∀ t ∈ ts, (Lit.int .i64 t.kind).wf = true := by
  obtain ⟨fuel, hf⟩ := h
  obtain ⟨a, len, cap, rfl⟩ := hv
  exact rows_of (x := (d, p)) (by simpa [Value.cells] using hf) hlt

end Go.Proofs.Ytcjeodgfpnecgaa.Nd

namespace Go.Proofs.Ytcjeodgfpnecgaa
open Go.RowKit

def letB (c : Int) : Bool := (decide (97 ≤ c) && decide (c ≤ 122)) || (decide (65 ≤ c) && decide (c ≤ 90))

def allL (l : List UInt8) : Bool := l.all fun c => letB c.toNat

/-- One to ten letters. -/
def lettersL (l : List UInt8) : Bool := (decide (1 ≤ l.length) && decide (l.length ≤ 10)) && allL l

theorem sz (s : ByteArray) : s.size = s.data.toList.length := rfl

theorem take_snoc (s : ByteArray) (k : Nat) (h : k < s.size) : s.data.toList.take (k + 1) = s.data.toList.take k ++ [s[k]] := by
  rw [List.take_succ_eq_append_getElem (by simpa using h)]; rfl

theorem take_full (s : ByteArray) (k : Nat) (h : ¬ k < s.size) : s.data.toList.take k = s.data.toList := by
  have e : s.size = s.data.toList.length := rfl
  exact List.take_of_length_le (by omega)

theorem allL_snoc (l : List UInt8) (c : UInt8) : allL (l ++ [c]) = (allL l && letB c.toNat) := by
  simp [allL]

theorem allL_no (s : ByteArray) (k : Nat) (h : k < s.size) (hb : letB s[k].toNat = false) : allL s.data.toList = false := by
  have hm : s[k] ∈ s.data.toList := by simp [ByteArray.getElem_eq_getElem_data]
  cases hp : allL s.data.toList with
  | false => rfl
  | true =>
    unfold allL at hp
    rw [List.all_eq_true] at hp
    have := hp _ hm
    rw [hb] at this
    exact absurd this (by decide)

/-- The pieces between the colons. -/
def splitA : List UInt8 → List UInt8 → List (List UInt8)
  | cur, [] => [cur]
  | cur, c :: r => if c.toNat = 58 then cur :: splitA [] r else splitA (cur ++ [c]) r

def splitL (l : List UInt8) : List (List UInt8) := splitA [] l

/-- Where the first colon stands. -/
def colonAt (l : List UInt8) : Option Nat := l.findIdx? fun c => c.toNat == 58

def preL (l : List UInt8) : List UInt8 := match colonAt l with
  | none => []
  | some a => l.take a

def locL (l : List UInt8) : List UInt8 := match colonAt l with
  | none => l
  | some a => l.drop (a + 1)

def nameL (l : List UInt8) : Bool := match colonAt l with
  | none => lettersL l
  | some _ => lettersL (preL l) && lettersL (locL l)

theorem splitA_no (l : List UInt8) : ∀ cur, colonAt l = none → splitA cur l = [cur ++ l] := by
  induction l with
  | nil => intro cur _; simp [splitA]
  | cons c r ih =>
    intro cur h
    unfold colonAt at h
    rw [List.findIdx?_cons] at h
    split at h
    · simp at h
    · rename_i hc
      have hr : colonAt r = none := by
        unfold colonAt
        cases hh : List.findIdx? (fun c : UInt8 => c.toNat == 58) r with
        | none => rfl
        | some a => rw [hh] at h; simp at h
      rw [splitA, if_neg (by simpa using hc), ih _ hr]
      simp

theorem splitA_some (l : List UInt8) : ∀ cur a, colonAt l = some a → splitA cur l = (cur ++ l.take a) :: splitA [] (l.drop (a + 1)) := by
  induction l with
  | nil => intro cur a h; simp [colonAt] at h
  | cons c r ih =>
    intro cur a h
    unfold colonAt at h
    rw [List.findIdx?_cons] at h
    split at h
    · rename_i hc
      simp at h
      subst h
      rw [splitA, if_pos (by simpa using hc)]
      simp
    · rename_i hc
      cases hh : List.findIdx? (fun c : UInt8 => c.toNat == 58) r with
      | none => rw [hh] at h; simp at h
      | some b =>
        rw [hh] at h
        simp at h
        subst h
        rw [splitA, if_neg (by simpa using hc), ih _ b hh]
        simp

theorem splitL_no {l : List UInt8} (h : colonAt l = none) : splitL l = [l] := by
  unfold splitL; rw [splitA_no l [] h]; rfl

theorem splitL_some {l : List UInt8} {a : Nat} (h : colonAt l = some a) : splitL l = l.take a :: splitL (l.drop (a + 1)) := by
  unfold splitL; rw [splitA_some l [] a h]; rfl

theorem colon_mem {l : List UInt8} {a : Nat} (h : colonAt l = some a) : ∃ c, c ∈ l ∧ c.toNat = 58 := by
  unfold colonAt at h
  obtain ⟨ha, hp, _⟩ := List.findIdx?_eq_some_iff_getElem.1 h
  exact ⟨l[a], List.getElem_mem ha, by simpa using hp⟩

theorem colon_letters {l : List UInt8} {a : Nat} (h : colonAt l = some a) : lettersL l = false := by
  obtain ⟨c, hm, hc⟩ := colon_mem h
  have : allL l = false := by
    cases hp : allL l with
    | false => rfl
    | true =>
      unfold allL at hp
      rw [List.all_eq_true] at hp
      have := hp c hm
      rw [hc] at this
      exact absurd this (by decide)
  simp [lettersL, this]

/-- What spec.NameOk asks of the pieces. -/
def piecesOk (p : List (List UInt8)) : Bool := match p with
  | [a] => lettersL a
  | [a, b] => lettersL a && lettersL b
  | _ => false

theorem pieces_name (l : List UInt8) : piecesOk (splitL l) = nameL l := by
  cases h : colonAt l with
  | none => rw [splitL_no h]; simp [piecesOk, nameL, h]
  | some a =>
    rw [splitL_some h]
    cases h2 : colonAt (l.drop (a + 1)) with
    | none => rw [splitL_no h2]; simp [piecesOk, nameL, preL, locL, h]
    | some b =>
      have hn : lettersL (l.drop (a + 1)) = false := colon_letters h2
      rw [splitL_some h2]
      have hne : ∀ x, splitL x ≠ [] := by
        intro x
        cases hx : colonAt x with
        | none => rw [splitL_no hx]; simp
        | some c => rw [splitL_some hx]; simp
      cases h3 : splitL ((l.drop (a + 1)).drop (b + 1)) with
      | nil => exact absurd h3 (hne _)
      | cons x y => simp [piecesOk, nameL, preL, locL, h, hn]

end Go.Proofs.Ytcjeodgfpnecgaa
