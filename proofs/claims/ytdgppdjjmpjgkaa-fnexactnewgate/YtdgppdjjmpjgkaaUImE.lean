/- Contracts of the program's copiedTable, Entered, Removed. -/
import Derived.Test.YtdgppdjjmpjgkaaUDel
import Derived.Test.YtdgppdjjmpjgkaaUSpecD
namespace Go.Proofs.Ytdgppdjjmpjgkaa
open Go.RowKit
set_option linter.unusedVariables false
set_option linter.unusedSimpArgs false

theorem cCopiedRows2 (a : Option Addr) (cap : Nat) (l : List Ro) (w : World) (hR : RoRow w a l) (hz : RoSz 1048576 l) (hn : l.length ≤ 100000) :
    Calls Try.prog 73 #[.slice a l.length cap] w fun e w' => ∃ a' c', e = .returned (.slice a' l.length c') ∧ w'.ownsRow w.heap.size 74 2 (.slice a' l.length c') l.length (roC l) ∧ Below w.heap.size w w' := by
  refine (cCopiedRows a cap l w hR hz hn).mono ?_
  rintro e w' ⟨v, rfl, ho, hb⟩
  obtain ⟨a', c', rfl⟩ := u_own_len ho
  exact ⟨a', c', rfl, ho, hb⟩

theorem u_own_keep {w : World} {B n : Nat} {E : TypeId} {s : Nat} {v : Value} {xs : List Value} (h : w.ownsRow B E s v n xs) {b : Nat} (hb : b < B) (o : Nat) (u : Value) : (w.setCell ⟨b, o, none⟩ u).ownsRow B E s v n xs :=
  u_own_set h (fun e => by have := (h.lt b e).1; omega) o u

set_option maxRecDepth 8000 in
set_option maxHeartbeats 4000000 in
theorem cCopiedTable (t : Tb) (a : Option Addr) (cap : Nat) (w : World) (hR : RoRow w a t.rows) (hz : RoSz 1048576 t.rows) (hn : t.rows.length ≤ 100000) :
    Calls Try.prog 57 #[tbV t a cap] w fun e w' => ∃ a' c', e = .returned (tbV t a' c') ∧ w'.ownsRow w.heap.size 74 2 (.slice a' t.rows.length c') t.rows.length (roC t.rows) ∧ Below w.heap.size w w' := by
  obtain ⟨m, l⟩ := t
  simp only at hR hz hn
  simp only [tbV]
  have C := hid (fun wx (h : Below w.heap.size w wx) => cCopiedRows2 a cap l wx (hR.below h) hz hn)
  obtain ⟨n, hnn⟩ : ∃ n, l.length = n := ⟨_, rfl⟩
  rw [hnn] at C ⊢
  obtain ⟨b1, b2⟩ := u_heap2 w (.cells #[.int .i64 m, .slice a n cap] 33) (.cells #[.int .i64 0, .slice none 0 0] 33)
  have HB0 := hid (((Below.refl w.heap.size w).alloc (Nat.le_refl _) (.cells #[.int .i64 m, .slice a n cap] 33)).alloc (by simp) (.cells #[.int .i64 0, .slice none 0 0] 33))
  obtain ⟨W0, hW0⟩ : ∃ W0, ((w.alloc (.cells #[.int .i64 m, .slice a n cap] 33)).alloc (.cells #[.int .i64 0, .slice none 0 0] 33)) = W0 := ⟨_, rfl⟩
  rw [hW0] at b1 b2 HB0
  obtain ⟨B, hB⟩ : ∃ B, w.heap.size = B := ⟨_, rfl⟩
  rw [hB] at b1 b2
  have HM1 := hid b1
  have HM2 := hid b2
  clear b1 b2 hR hz hn hnn
  obtain ⟨⟨f0, f1⟩, f2, f3⟩ := u_box2f HM1.out
  obtain ⟨⟨k0, k1⟩, k2, k3⟩ := u_box2f HM2.out
  go_enter Try.func57, Try.ntmps57
  go_wp2_with fail
  have HBc := hid ((Below.refl W0.heap.size W0).drew)
  have HBd := hid (bb HB0.out HBc.out)
  go_region_law (first
    | (go_simp; go_at_call 73; refine (C.out _ HBd.out).mono ?_; rintro e w6 ⟨a6, c6, rfl, ho6, hb6⟩; have HO6 := hid ho6; have HB6 := hid (HBc.out.trans hb6); obtain ⟨⟨r0, r1⟩, r2, r3⟩ := u_box2f (u_blk_below HM1.out HB6.out); obtain ⟨⟨s0, s1⟩, s2, s3⟩ := u_box2f (u_blk_below HM2.out HB6.out); clear ho6 hb6))
  all_goals
    have HD := hid ((show B + 1 < W0.drew.heap.size from lt_of_heap HM2.out))
    have HW := hid ((HB0.out.trans (HB6.out.mono HB0.out.size)))
    go_wp2_with fail
    refine bodyPost_ret (v := .agg #[.int .i64 m, .slice a6 n c6]) (by simp [results, Try.results57, go_sem, r0, r1, s0, s1]) rfl ⟨a6, c6, rfl, ?_, ?_⟩
    · exact u_own_base (u_own_keep (u_own_keep HO6.out HD.out _ _) HD.out _ _) (by have := HD.out; omega)
    · iterate 2 refine Below.setCell ?_ (show w.heap.size ≤ B + 1 by omega) _
      exact HW.out

/-- Boxes of a table, of the result and of a row, behind which others may come. -/
structure Bx3 (w : World) (B : Nat) (m : Int) (v : Value) (id : ByteArray) (til : Int) : Prop where
  h1 : w.heap[B]? = some (.cells #[.int .i64 m, v] 33 (0, 0))
  h2 : w.heap[B + 1]? = some (.cells #[.int .i64 0, .slice none 0 0] 33 (0, 0))
  h3 : w.heap[B + 2]? = some (.cells #[.string id, .int .i64 til] 74 (0, 0))

theorem Bx3.below {w w' : World} {B : Nat} {m : Int} {v : Value} {id : ByteArray} {til : Int} (h : Bx3 w B m v id til) (hb : Below w.heap.size w w') : Bx3 w' B m v id til :=
  ⟨u_blk_below h.h1 hb, u_blk_below h.h2 hb, u_blk_below h.h3 hb⟩

theorem Bx3.cells {w : World} {B : Nat} {m : Int} {v : Value} {id : ByteArray} {til : Int} (h : Bx3 w B m v id til) :
    w.cell? ⟨B, 0, none⟩ = some (.int .i64 m) ∧ w.cell? ⟨B, 1, none⟩ = some v ∧ w.cell? ⟨B + 1, 0, none⟩ = some (.int .i64 0) ∧ w.cell? ⟨B + 1, 1, none⟩ = some (.slice none 0 0) ∧ w.cell? ⟨B + 2, 0, none⟩ = some (.string id) ∧ w.cell? ⟨B + 2, 1, none⟩ = some (.int .i64 til) ∧ w.frozen? ⟨B + 1, 0, none⟩ = false ∧ w.frozen? ⟨B + 1, 1, none⟩ = false :=
  ⟨(u_box2c h.h1).1, (u_box2c h.h1).2, (u_box2c h.h2).1, (u_box2c h.h2).2, (u_box2c h.h3).1, (u_box2c h.h3).2, Lib.frozen_of_heap h.h2 _, Lib.frozen_of_heap h.h2 _⟩

theorem roB_is {id : ByteArray} {til : Int} : roB ⟨id, til⟩ = (u_idOk id && utmB til) := rfl

end Go.Proofs.Ytdgppdjjmpjgkaa
