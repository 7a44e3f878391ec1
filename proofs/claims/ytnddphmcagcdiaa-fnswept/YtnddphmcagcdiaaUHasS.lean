/- Tables in boxes: the calls of the law on what is swept. -/
import Derived.Test.YtnddphmcagcdiaaULike
import Derived.Test.YtnddphmcagcdiaaUTab
import Derived.Test.YtnddphmcagcdiaaUSwp
import Derived.Test.YtnddphmcagcdiaaUSzS
import Derived.Test.YtnddphmcagcdiaaUDrS
import Derived.Test.YtnddphmcagcdiaaPDraw
namespace Go.Proofs.Ytnddphmcagcdiaa
open Go.RowKit
set_option linter.unusedVariables false
set_option linter.unusedSimpArgs false

/-- In box B lies that table. -/
def Has (w : World) (B : Nat) (t : Tb) (a : Option Addr) (c : Nat) : Prop := TbBox w B t.most (.slice a t.rows.length c) ∧ RoRow w a t.rows

theorem Has.below {w w' : World} {B : Nat} {t : Tb} {a : Option Addr} {c : Nat} (h : Has w B t a c) (hb : Below w.heap.size w w') : Has w' B t a c := ⟨h.1.below hb, h.2.below hb⟩

theorem Has.new {w : World} (t : Tb) (a : Option Addr) (c : Nat) (h : RoRow w a t.rows) : Has (w.alloc (.cells #[.int .i64 t.most, .slice a t.rows.length c] 26)) w.heap.size t a c :=
  ⟨TbBox.new _ _ _ _, h.below ((Below.refl _ _).alloc (Nat.le_refl _) _)⟩

def Sm (t : Tb) : Prop := t.rows.length ≤ 1048576 ∧ RoSz 1048576 t.rows

theorem sm_of {t : Tb} (h : t.rows.length ≤ 6) (hz : RoSz 10 t.rows) : Sm t := ⟨Nat.le_trans h (by decide), hz.mono (by decide)⟩

theorem sm_zero : Sm zeroT := ⟨Nat.zero_le _, fun x hx => (List.not_mem_nil hx).elim⟩

theorem hLike {w : World} {B1 B2 : Nat} {t : Tb} {a1 a2 : Option Addr} {c1 c2 : Nat} (h1 : Has w B1 t a1 c1) (h2 : Has w B2 t a2 c2) (hs : Sm t) :
    Calls Try.prog 8 #[.agg #[.int .i64 t.most, .slice a1 t.rows.length c1], .agg #[.int .i64 t.most, .slice a2 t.rows.length c2]] w fun e w' => e = .returned (.bool true) ∧ Below w.heap.size w w' := cLike t a1 a2 c1 c2 w h1.2 h2.2 hs.1

theorem hLikeZ {w : World} {B1 : Nat} {t : Tb} {a1 : Option Addr} {c1 : Nat} (ht : t = zeroT) (h1 : Has w B1 t a1 c1) :
    Calls Try.prog 8 #[.agg #[.int .i64 t.most, .slice a1 t.rows.length c1], .agg #[.int .i64 0, .slice none 0 0]] w fun e w' => e = .returned (.bool true) ∧ Below w.heap.size w w' := by
  subst ht
  exact cLike zeroT a1 none c1 0 w h1.2 (RoRow.nil _ _) sm_zero.1

theorem hOkI {w : World} {B1 : Nat} {t : Tb} {a1 : Option Addr} {c1 : Nat} (h1 : Has w B1 t a1 c1) (hs : Sm t) :
    Calls Try.prog 13 #[.agg #[.int .i64 t.most, .slice a1 t.rows.length c1]] w fun e w' => e = .returned (.bool (tableB t)) ∧ Below w.heap.size w w' := cTableOkI t a1 c1 w h1.2 hs.2 hs.1

theorem hOkS {w : World} {B1 : Nat} {t : Tb} {a1 : Option Addr} {c1 : Nat} (h1 : Has w B1 t a1 c1) (hs : Sm t) :
    Calls Try.prog 10 #[.agg #[.int .i64 t.most, .slice a1 t.rows.length c1]] w fun e w' => e = .returned (.bool (tableB t)) ∧ Below w.heap.size w w' := cTableOkS t a1 c1 w h1.2 hs.2 hs.1

theorem hHoldI {w : World} {B1 : Nat} {t : Tb} {a1 : Option Addr} {c1 : Nat} (id : ByteArray) (h1 : Has w B1 t a1 c1) (hs : Sm t) :
    Calls Try.prog 11 #[.agg #[.int .i64 t.most, .slice a1 t.rows.length c1], .string id] w fun e w' => e = .returned (.bool (holdsT t id)) ∧ Below w.heap.size w w' := cHoldsI t a1 c1 id w h1.2 hs.2 hs.1

theorem sm_swept {t : Tb} {now : Int} (h : Sm t) : Sm (sweptT t now) := ⟨(sweptT_sz (now := now) h.2 h.1).2, (sweptT_sz (now := now) h.2 h.1).1⟩

theorem hSwI {w : World} {B1 : Nat} {t : Tb} {a1 : Option Addr} {c1 : Nat} (now : Int) (r : Tb) (hr : sweptT t now = r) (h1 : Has w B1 t a1 c1) (hs : Sm t) :
    Calls Try.prog 7 #[.agg #[.int .i64 t.most, .slice a1 t.rows.length c1], .int .i64 now] w fun e w' => ∃ a' c', e = .returned (.agg #[.int .i64 r.most, .slice a' r.rows.length c']) ∧ RoRow w' a' r.rows ∧ Below w.heap.size w w' := by
  refine (cSweptI t a1 c1 now w h1.2 hs.2 hs.1).mono ?_
  rintro e w' ⟨a', c', rfl, h, hb⟩
  rw [hr] at h ⊢
  exact ⟨a', c', rfl, h.row, hb⟩

theorem hSwS {w : World} {B1 : Nat} {t : Tb} {a1 : Option Addr} {c1 : Nat} (now : Int) (r : Tb) (hr : sweptT t now = r) (h1 : Has w B1 t a1 c1) (hs : Sm t) :
    Calls Try.prog 9 #[.agg #[.int .i64 t.most, .slice a1 t.rows.length c1], .int .i64 now] w fun e w' => ∃ a' c', e = .returned (.agg #[.int .i64 r.most, .slice a' r.rows.length c']) ∧ RoRow w' a' r.rows ∧ Below w.heap.size w w' := by
  refine (cSweptS t a1 c1 now w h1.2 hs.2 hs.1).mono ?_
  rintro e w' ⟨a', c', rfl, h, hb⟩
  rw [hr] at h ⊢
  exact ⟨a', c', rfl, h, hb⟩

theorem lLike {w : World} {t : Tb} {a1 a2 : Option Addr} {c1 c2 : Nat} (h1 : RoRow w a1 t.rows) (h2 : RoRow w a2 t.rows) (hs : Sm t) :
    Calls Try.prog 8 #[.agg #[.int .i64 t.most, .slice a1 t.rows.length c1], .agg #[.int .i64 t.most, .slice a2 t.rows.length c2]] w fun e w' => e = .returned (.bool true) ∧ Below w.heap.size w w' := cLike t a1 a2 c1 c2 w h1 h2 hs.1

/-- What the law asks of a table that was right. -/
theorem swept_law {t : Tb} {now : Int} (h : (tableB t && utmB now) = true) : (sweptT t now).rows = sweepR t.rows now ∧ tableB (sweptT t now) = true ∧ (∀ i (hi : i < t.rows.length), holdsT (sweptT t now) t.rows[i].id = decide (now < t.rows[i].til)) ∧ ∀ later, now ≤ later → sweptT (sweptT t now) later = sweptT t later :=
  ⟨by rw [sweptT_t h], swept_ok h, fun i hi => swept_holds h i hi, fun later hl => swept_later h hl⟩

end Go.Proofs.Ytnddphmcagcdiaa
