/- Tables in boxes: the calls of the law on tables. -/
import Derived.Test.YtmbomjmenbfhmaaULike
import Derived.Test.YtmbomjmenbfhmaaUTab
import Derived.Test.YtmbomjmenbfhmaaUDrE
import Derived.Test.YtmbomjmenbfhmaaUImE
import Derived.Test.YtmbomjmenbfhmaaUImR
import Derived.Test.YtmbomjmenbfhmaaUSpecD
namespace Go.Proofs.Ytmbomjmenbfhmaa
open Go.RowKit
set_option linter.unusedVariables false
set_option linter.unusedSimpArgs false

/-- In box B lies that table. -/
def Has (w : World) (B : Nat) (t : Tb) (a : Option Addr) (c : Nat) : Prop := TbBox w B t.most (.slice a t.rows.length c) ∧ RoRow w a t.rows

theorem Has.below {w w' : World} {B : Nat} {t : Tb} {a : Option Addr} {c : Nat} (h : Has w B t a c) (hb : Below w.heap.size w w') : Has w' B t a c := ⟨h.1.below hb, h.2.below hb⟩

theorem Has.new {w : World} (t : Tb) (a : Option Addr) (c : Nat) (h : RoRow w a t.rows) : Has (w.alloc (.cells #[.int .i64 t.most, .slice a t.rows.length c] 26)) w.heap.size t a c :=
  ⟨TbBox.new _ _ _ _, h.below ((Below.refl _ _).alloc (Nat.le_refl _) _)⟩

def Sm (t : Tb) : Prop := t.rows.length ≤ 1048576 ∧ RoSz 1048576 t.rows

theorem sm_of {t : Tb} (h : t.rows.length ≤ 6) (hz : RoSz 10 t.rows) : Sm t := ⟨Nat.le_trans h (by decide), hz.mono (by decide)⟩

theorem sm_zero : Sm zeroT := ⟨Nat.zero_le _, fun x hx => (List.not_mem_nil hx).elim⟩

theorem sm_ent {t : Tb} {id : ByteArray} {til : Int} (h : t.rows.length ≤ 6) (hz : RoSz 10 t.rows) (hi : id.size ≤ 10) : Sm (enteredT t id til).1 := by
  unfold enteredT
  split
  · exact ⟨Nat.le_trans (enterT_len t id til) (by omega), (enterT_sz hz hi).mono (by decide)⟩
  · exact sm_zero

theorem sm_rem {t : Tb} {id : ByteArray} (h : t.rows.length ≤ 6) (hz : RoSz 10 t.rows) : Sm (removedT t id).1 := by
  unfold removedT
  split
  · unfold removeT
    split
    · refine ⟨?_, fun x hx => ?_⟩
      · show (t.rows.take _ ++ t.rows.drop _).length ≤ _
        rw [List.length_append, List.length_take, List.length_drop]
        omega
      · have hx' : x ∈ t.rows.take (findR t.rows id) ++ t.rows.drop (findR t.rows id + 1) := hx
        rcases List.mem_append.1 hx' with h1 | h1
        · exact Nat.le_trans (hz x (List.mem_of_mem_take h1)) (by decide)
        · exact Nat.le_trans (hz x (List.mem_of_mem_drop h1)) (by decide)
    · exact sm_of h hz
  · exact sm_zero

theorem sm_new (m : Int) : Sm (newT m).1 := by
  unfold newT
  split
  · exact ⟨Nat.zero_le _, fun x hx => (List.not_mem_nil hx).elim⟩
  · exact sm_zero

theorem new_none (m : Int) (w : World) (a : Option Addr) : RoRow w a (newT m).1.rows := by
  unfold newT
  split
  · exact RoRow.nil _ _
  · exact RoRow.nil _ _

theorem new_len (m : Int) : (newT m).1.rows.length = 0 := by
  unfold newT
  split <;> rfl

abbrev tv (t : Tb) (a : Option Addr) (c : Nat) : Value := .agg #[.int .i64 t.most, .slice a t.rows.length c]

theorem hLike {w : World} {B1 B2 : Nat} {t : Tb} {a1 a2 : Option Addr} {c1 c2 : Nat} (h1 : Has w B1 t a1 c1) (h2 : Has w B2 t a2 c2) (hs : Sm t) :
    Calls Try.prog 17 #[.agg #[.int .i64 t.most, .slice a1 t.rows.length c1], .agg #[.int .i64 t.most, .slice a2 t.rows.length c2]] w fun e w' => e = .returned (.bool true) ∧ Below w.heap.size w w' := cLike t a1 a2 c1 c2 w h1.2 h2.2 hs.1

theorem hLikeZ {w : World} {B1 : Nat} {t : Tb} {a1 : Option Addr} {c1 : Nat} (ht : t = zeroT) (h1 : Has w B1 t a1 c1) :
    Calls Try.prog 17 #[.agg #[.int .i64 t.most, .slice a1 t.rows.length c1], .agg #[.int .i64 0, .slice none 0 0]] w fun e w' => e = .returned (.bool true) ∧ Below w.heap.size w w' := by
  subst ht
  exact cLike zeroT a1 none c1 0 w h1.2 (RoRow.nil _ _) sm_zero.1

theorem hOkI {w : World} {B1 : Nat} {t : Tb} {a1 : Option Addr} {c1 : Nat} (h1 : Has w B1 t a1 c1) (hs : Sm t) :
    Calls Try.prog 18 #[.agg #[.int .i64 t.most, .slice a1 t.rows.length c1]] w fun e w' => e = .returned (.bool (tableB t)) ∧ Below w.heap.size w w' := cTableOkI t a1 c1 w h1.2 hs.2 hs.1

theorem hOkS {w : World} {B1 : Nat} {t : Tb} {a1 : Option Addr} {c1 : Nat} (h1 : Has w B1 t a1 c1) (hs : Sm t) :
    Calls Try.prog 19 #[.agg #[.int .i64 t.most, .slice a1 t.rows.length c1]] w fun e w' => e = .returned (.bool (tableB t)) ∧ Below w.heap.size w w' := cTableOkS t a1 c1 w h1.2 hs.2 hs.1

theorem hHoldI {w : World} {B1 : Nat} {t : Tb} {a1 : Option Addr} {c1 : Nat} (id : ByteArray) (h1 : Has w B1 t a1 c1) (hs : Sm t) :
    Calls Try.prog 20 #[.agg #[.int .i64 t.most, .slice a1 t.rows.length c1], .string id] w fun e w' => e = .returned (.bool (holdsT t id)) ∧ Below w.heap.size w w' := cHoldsI t a1 c1 id w h1.2 hs.2 hs.1

theorem hHoldS {w : World} {B1 : Nat} {t : Tb} {a1 : Option Addr} {c1 : Nat} (id : ByteArray) (hi : id.size ≤ 10) (h1 : Has w B1 t a1 c1) (hs : Sm t) :
    Calls Try.prog 21 #[.agg #[.int .i64 t.most, .slice a1 t.rows.length c1], .string id] w fun e w' => e = .returned (.bool (holdsT t id)) ∧ Below w.heap.size w w' := cHoldsS t a1 c1 id w h1.2 hs.2 hs.1 (Nat.le_trans hi (by decide))

theorem hRemI {w : World} {B1 : Nat} {t : Tb} {a1 : Option Addr} {c1 : Nat} (id : ByteArray) (r : Tb) (b : Bool) (hr : (removedT t id) = (r, b)) (h1 : Has w B1 t a1 c1) (hs : Sm t) :
    Calls Try.prog 13 #[.agg #[.int .i64 t.most, .slice a1 t.rows.length c1], .string id] w fun e w' => ∃ a' c', e = .returned (.tuple #[.agg #[.int .i64 r.most, .slice a' r.rows.length c'], .bool b]) ∧ RoRow w' a' r.rows ∧ Below w.heap.size w w' := by
  refine (cRemovedI t a1 c1 id w h1.2 hs.2 hs.1).mono ?_
  rintro e w' ⟨a', c', rfl, h, hb⟩
  rw [hr] at h ⊢
  exact ⟨a', c', rfl, h.row, hb⟩

theorem hRemS {w : World} {B1 : Nat} {t : Tb} {a1 : Option Addr} {c1 : Nat} (id : ByteArray) (hi : id.size ≤ 10) (r : Tb) (b : Bool) (hr : (removedT t id) = (r, b)) (h1 : Has w B1 t a1 c1) (hs : Sm t) :
    Calls Try.prog 22 #[.agg #[.int .i64 t.most, .slice a1 t.rows.length c1], .string id] w fun e w' => ∃ a' c', e = .returned (.tuple #[.agg #[.int .i64 r.most, .slice a' r.rows.length c'], .bool b]) ∧ RoRow w' a' r.rows ∧ Below w.heap.size w w' := by
  refine (cRemovedS t a1 c1 id w h1.2 hs.2 hs.1 (Nat.le_trans hi (by decide))).mono ?_
  rintro e w' ⟨a', c', rfl, h, hb⟩
  rw [hr] at h ⊢
  exact ⟨a', c', rfl, h, hb⟩

theorem hEntI {w : World} {B1 : Nat} {t : Tb} {a1 : Option Addr} {c1 : Nat} (id : ByteArray) (til : Int) (hi : id.size ≤ 10) (r : Tb) (b : Int) (hr : (enteredT t id til) = (r, b)) (h1 : Has w B1 t a1 c1) (hs : Sm t) :
    Calls Try.prog 11 #[.agg #[.int .i64 t.most, .slice a1 t.rows.length c1], .string id, .int .i64 til] w fun e w' => ∃ a' c', e = .returned (.tuple #[.agg #[.int .i64 r.most, .slice a' r.rows.length c'], .int .i64 b]) ∧ RoRow w' a' r.rows ∧ Below w.heap.size w w' := by
  refine (cEnteredI t a1 c1 id til w h1.2 hs.2 hs.1 (Nat.le_trans hi (by decide))).mono ?_
  rintro e w' ⟨a', c', rfl, h, hb⟩
  rw [hr] at h ⊢
  exact ⟨a', c', rfl, h.row, hb⟩

theorem hEntS {w : World} {B1 : Nat} {t : Tb} {a1 : Option Addr} {c1 : Nat} (id : ByteArray) (til : Int) (hi : id.size ≤ 10) (r : Tb) (b : Int) (hr : (enteredT t id til) = (r, b)) (h1 : Has w B1 t a1 c1) (hs : Sm t) :
    Calls Try.prog 16 #[.agg #[.int .i64 t.most, .slice a1 t.rows.length c1], .string id, .int .i64 til] w fun e w' => ∃ a' c', e = .returned (.tuple #[.agg #[.int .i64 r.most, .slice a' r.rows.length c'], .int .i64 b]) ∧ RoRow w' a' r.rows ∧ Below w.heap.size w w' := by
  refine (cEnteredS t a1 c1 id til w h1.2 hs.2 hs.1 (Nat.le_trans hi (by decide))).mono ?_
  rintro e w' ⟨a', c', rfl, h, hb⟩
  rw [hr] at h ⊢
  exact ⟨a', c', rfl, h, hb⟩

theorem hNewI (m : Int) (r : Tb) (b : Bool) (hr : newT m = (r, b)) (w : World) :
    Calls Try.prog 15 #[.int .i64 m] w fun e w' => ∃ a' c', e = .returned (.tuple #[.agg #[.int .i64 r.most, .slice a' r.rows.length c'], .bool b]) ∧ RoRow w' a' r.rows ∧ Below w.heap.size w w' := by
  have hn := new_none m
  refine (cNewTableI m w).mono ?_
  rintro e w' ⟨rfl, hb⟩
  have := hn w' none
  rw [hr] at this ⊢
  exact ⟨none, 0, rfl, this, hb⟩

theorem hNewS (m : Int) (r : Tb) (b : Bool) (hr : newT m = (r, b)) (w : World) :
    Calls Try.prog 23 #[.int .i64 m] w fun e w' => ∃ a' c', e = .returned (.tuple #[.agg #[.int .i64 r.most, .slice a' r.rows.length c'], .bool b]) ∧ RoRow w' a' r.rows ∧ Below w.heap.size w w' := by
  have hn := new_none m
  refine (cNewTableS m w).mono ?_
  rintro e w' ⟨rfl, hb⟩
  have := hn w' none
  rw [hr] at this ⊢
  exact ⟨none, 0, rfl, this, hb⟩

theorem hDrawE (a : Option Addr) (len cap : Nat) (w : World) (hlen : len ≤ 4096) (hcr : CodeRow w a len) :
    Calls Try.prog 10 #[.slice a len cap] w fun e w' => ∃ (t : Tb) (a' : Option Addr) (c' : Nat) (id : ByteArray) (z : Int), e = .returned (.tuple #[.agg #[.int .i64 t.most, .slice a' t.rows.length c'], .string id, .int .i64 z]) ∧ RoRow w' a' t.rows ∧ t.rows.length ≤ 6 ∧ RoSz 10 t.rows ∧ id.size ≤ 10 ∧ Below w.heap.size w w' := cDrawEntered a len cap w hlen hcr

theorem hDrawR (a : Option Addr) (len cap : Nat) (w : World) (hlen : len ≤ 4096) (hcr : CodeRow w a len) :
    Calls Try.prog 12 #[.slice a len cap] w fun e w' => ∃ (t : Tb) (a' : Option Addr) (c' : Nat) (id : ByteArray), e = .returned (.tuple #[.agg #[.int .i64 t.most, .slice a' t.rows.length c'], .string id]) ∧ RoRow w' a' t.rows ∧ t.rows.length ≤ 6 ∧ RoSz 10 t.rows ∧ id.size ≤ 10 ∧ Below w.heap.size w w' := cDrawRemoved a len cap w hlen hcr

end Go.Proofs.Ytmbomjmenbfhmaa
