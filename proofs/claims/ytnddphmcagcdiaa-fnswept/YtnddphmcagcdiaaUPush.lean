/- The heap of rows: Push. -/
import Derived.Test.YtnddphmcagcdiaaUUp
import Derived.Test.YtnddphmcagcdiaaUDel
namespace Go.Proofs.Ytnddphmcagcdiaa
open Go.RowKit
set_option linter.unusedVariables false
set_option linter.unusedSimpArgs false

theorem set0_heap {w : World} {R : Nat} {x v : Value} {T : TypeId} (h : w.heap[R]? = some (.cells #[x] T (0, 0))) : (w.setCell ⟨R, 0, none⟩ v).heap[R]? = some (.cells #[v] T (0, 0)) := by
  have h1 := u_heap_set (i := 0) h v
  simpa using h1

/-- The heap's box and its rows, an address or none. -/
structure Wn (w : World) (B R : Nat) (v : Value) (l : List Ro) : Prop where
  box : w.heap[R]? = some (.cells #[v] 49 (0, 0))
  own : w.ownsRow B 33 2 v l.length (roC l)

theorem Wn.below {w w' : World} {B R : Nat} {v : Value} {l : List Ro} (h : Wn w B R v l) (hb : Below w.heap.size w w') : Wn w' B R v l := ⟨u_blk_below h.box hb, ownsRow_below h.own hb⟩

theorem u_box1c {w : World} {g : Nat} {x : Value} {T : TypeId} (h : w.heap[g]? = some (.cells #[x] T (0, 0))) : w.cell? ⟨g, 0, none⟩ = some x := by
  rw [Lib.cell_of_heap h]
  rfl

theorem u_box1f {w : World} {g : Nat} {x : Value} {T : TypeId} (h : w.heap[g]? = some (.cells #[x] T (0, 0))) : w.frozen? ⟨g, 0, none⟩ = false := Lib.frozen_of_heap h _

set_option maxRecDepth 8000 in
/-- One row more behind all, as a run. -/
theorem push_app {B R : Nat} {v : Value} {l : List Ro} {W : World} (x : ByteArray) (y : Int) (hW : Wn W B R v l) (hB : B ≤ W.heap.size) (hl : l.length ≤ 100000) :
    ∃ a8 c8 w8, (Builtin.append_ #[49, 49] 49 #[v, .slice (some ⟨W.heap.size, 0, none⟩) 1 1]).run Try.prog (W.alloc (.cells #[.string x, .int .i64 y] 33)) = .ok (.slice a8 (l.length + 1) c8) w8
      ∧ w8.ownsRow B 33 2 (.slice a8 (l.length + 1) c8) (l.length + 1) (roC (l ++ [⟨x, y⟩])) ∧ (W.alloc (.cells #[.string x, .int .i64 y] 33)).grownBy w8 v.ownBlock := by
  obtain ⟨i0, hi0, hz0, hz1, hz2⟩ := info_parts infoRoW
  have hb := (Below.refl W.heap.size W).alloc (Nat.le_refl _) (.cells #[.string x, .int .i64 y] 33)
  have ho6 := ownsRow_below hW.own hb
  obtain ⟨b', o', c', e', _, _, h4⟩ := (u_Rd.new W 33 2 (roC [⟨x, y⟩]) 1 rfl).at_
  cases e'
  obtain ⟨v8, w8, hrun, r1, r2, _, _⟩ := run_append_own_at (P := Try.prog) (W.alloc (.cells #[.string x, .int .i64 y] 33)) B 49 49 33 i0 _ 2 24 Try.underlying49 hi0 hz0 hz1 hz2 rfl (by decide) v l.length (roC l) ho6 ⟨W.heap.size, 0, none⟩ 1 1 (roC [⟨x, y⟩]) rfl (fun j u hj => by rw [u_add_plainW]; exact h4 j u hj) (roC_one _) (by unfold maxLen; omega) (by omega) (by have := hb.size; omega)
  obtain ⟨a8, c8, rfl⟩ := u_own_len r1
  exact ⟨a8, c8, w8, hrun, by rw [roC_app]; exact r1, r2⟩

set_option maxRecDepth 8000 in
set_option maxHeartbeats 4000000 in
theorem cWPush (B R : Nat) (v : Value) (l : List Ro) (x : ByteArray) (y : Int) (w : World) (hW : Wn w B R v l) (hB : B ≤ w.heap.size) (hRB : R < B) (hl : l.length ≤ 100000) :
    Calls Try.prog 103 #[.pointer (some ⟨R, 0, none⟩), .iface 33 (.agg #[.string x, .int .i64 y])] w fun e w' => e = .returned (.tuple #[]) ∧ ∃ v', Wn w' B R v' (l ++ [⟨x, y⟩]) ∧ Below R w w' := by
  have HX := hid (heap_alloc_new w (.cells #[.string x, .int .i64 y] 33))
  have HB0 := hid ((Below.refl w.heap.size w).alloc (Nat.le_refl _) (.cells #[.string x, .int .i64 y] 33))
  have HW := hid (hW.below HB0.out)
  clear hW
  have ta : ∀ w, (Instr.typeAssert (.iface 33 (.agg #[.string x, .int .i64 y])) 20 33 true).run Try.prog w = .ok (.tuple #[.agg #[.string x, .int .i64 y], .bool true]) w := fun _ => by kernel_rfl
  go_enter Try.func103, Try.ntmps103
  go_wp2_with fail
  have HSd := hid (HW.out.below ((Below.refl _ _).drew))
  obtain ⟨w4, hw4⟩ : ∃ W, w.alloc (.cells #[.string x, .int .i64 y] 33) = W := ⟨_, rfl⟩
  rw [hw4] at HX HB0 HW HSd
  try simp only [hw4]
  clear hw4
  obtain ⟨X, hX⟩ : ∃ X, w.heap.size = X := ⟨_, rfl⟩
  rw [hX] at HX
  try simp only [hX]
  have HXd := hid (u_blk_below HX.out ((Below.refl w4.heap.size w4).drew))
  have HRx := hid (show R < X by omega)
  have HBd := hid ((Below.refl w4.drew.heap.size w4.drew).alloc (Nat.le_refl _) (.cells #[.string x, .int .i64 y] 33))
  have HBe := hid ((Below.refl w4.heap.size w4).alloc (Nat.le_refl _) (.cells #[.string x, .int .i64 y] 33))
  obtain ⟨⟨p0, p1⟩, p2, p3⟩ := u_box2f HXd.out
  have q0 := u_box1c HSd.out.box
  have q1 := u_box1c (u_blk_below HSd.out.box HBd.out)
  have q2 := u_box1c (u_blk_below HW.out.box HBe.out)
  have q3 := u_box1c HW.out.box
  obtain ⟨⟨d0, d1⟩, d2, d3⟩ := u_box2f HX.out
  have HPA := hid (push_app (B := B) x y HSd.out (Nat.le_trans hB (Nat.le_trans HB0.out.size ((Below.refl w4.heap.size w4).drew).size)) hl)
  go_region_law (obtain ⟨a9, c9, w9, hrun, ho9, hg9⟩ := HPA.out
                 refine u_step_app rfl (.tmp 15) (.tmp 17) 49 49 rfl v (.slice (some ⟨w4.drew.heap.size, 0, none⟩) 1 1) (by simp [Act.eval, Act.put]) (by simp [Act.eval, Act.put]) hrun ?_
                 have HO9 := hid ho9
                 have HG9 := hid hg9
                 have hbx := u_blk_below HSd.out.box HBd.out
                 have q5 := u_box1c ((hg9.block R (lt_of_heap hbx) (fun e => by have := (HSd.out.own.lt R e.symm).1; omega)).trans hbx)
                 have q6 := u_box1f ((hg9.block R (lt_of_heap hbx) (fun e => by have := (HSd.out.own.lt R e.symm).1; omega)).trans hbx)
                 clear hrun ho9 hg9)
  all_goals
    go_wp2_with fail
    go_end0
    have hbx := u_blk_below HSd.out.box HBd.out
    have hb9 := (HG9.out.block R (lt_of_heap hbx) (fun e => by have := (HSd.out.own.lt R e.symm).1; omega)).trans hbx
    have hne : (Value.slice a9 (l.length + 1) c9).ownBlock ≠ some R := fun e => by have := (HO9.out.lt R e).1; omega
    have hA : Below w.heap.size w (w4.drew.alloc (.cells #[.string x, .int .i64 y] 33)) := bb HB0.out (bb ((Below.refl w4.heap.size w4).drew) HBd.out)
    have hRw : R ≤ w.heap.size := by omega
    have hC : Below R w w9 := (hA.mono hRw).grown HG9.out (Nat.le_trans hRw hA.size) (fun k e => by have := (HSd.out.own.lt k e).1; omega)
    refine ⟨rfl, .slice a9 (l.length + 1) c9, ⟨?_, ?_⟩, hC.setCell (Nat.le_refl R) _⟩
    · exact set0_heap hb9
    · rw [List.length_append]
      exact u_own_set HO9.out hne _ _

end Go.Proofs.Ytnddphmcagcdiaa
