/- Contracts of NewTable, of the program and of the specification. -/
import Derived.Test.YtdgppdjjmpjgkaaUMark
import Derived.Test.YtdgppdjjmpjgkaaUImB
namespace Go.Proofs.Ytdgppdjjmpjgkaa
open Go.RowKit
set_option linter.unusedVariables false
set_option linter.unusedSimpArgs false

theorem newT_t {m : Int} (h : mostB m = true) : newT m = (⟨m, []⟩, true) := if_pos h
theorem newT_f {m : Int} (h : mostB m = false) : newT m = (zeroT, false) := if_neg (by rw [h]; exact Bool.false_ne_true)

theorem newT_rows (m : Int) : (newT m).1.rows = [] := by
  cases h : mostB m with
  | true => rw [newT_t h]
  | false => rw [newT_f h]; rfl

set_option maxHeartbeats 2000000 in
theorem cNewTableI (m : Int) (w : World) :
    Calls Try.prog 34 #[.int .i64 m] w fun e w' => e = .returned (.tuple #[tbV (newT m).1 none 0, .bool (newT m).2]) ∧ Below w.heap.size w w' := by
  have C := hid (fun wx => cMostOk m wx)
  have M := hid (heap_alloc_new w (.cells #[.int .i64 0, .slice none 0 0] 33))
  have HB := hid ((Below.refl w.heap.size w).alloc (Nat.le_refl _) (.cells #[.int .i64 0, .slice none 0 0] 33))
  cases h : mostB m with
  | true =>
    rw [newT_t h]
    rw [h] at C
    clear h
    simp only [tbV, List.length_nil]
    obtain ⟨⟨z0, z1⟩, zf0, zf1⟩ := u_box2f M.out
    go_enter Try.func34, Try.ntmps34
    go_wp2_with fail
    refine (C.out _).mono ?_
    rintro e w1 ⟨rfl, rfl⟩
    go_wp2_with fail
    refine bodyPost_ret (v := .tuple #[.agg #[.int .i64 m, .slice none 0 0], .bool true]) (by simp [results, Try.results34, go_sem, z0, z1]) rfl ⟨rfl, ?_⟩
    repeat first | exact HB.out | exact (Below.refl _ _).alloc (Nat.le_refl _) _ | refine Below.setCell ?_ (by simp; try omega) _
  | false =>
    rw [newT_f h]
    rw [h] at C
    clear h
    simp only [tbV, zeroT, List.length_nil]
    obtain ⟨⟨z0, z1⟩, zf0, zf1⟩ := u_box2f M.out
    go_enter Try.func34, Try.ntmps34
    go_wp2_with fail
    refine (C.out _).mono ?_
    rintro e w1 ⟨rfl, rfl⟩
    go_wp2_with fail
    refine bodyPost_ret (v := .tuple #[.agg #[.int .i64 0, .slice none 0 0], .bool false]) (by simp [results, Try.results34, go_sem, z0, z1]) rfl ⟨rfl, ?_⟩
    repeat first | exact HB.out | exact (Below.refl _ _).alloc (Nat.le_refl _) _ | refine Below.setCell ?_ (by simp; try omega) _

end Go.Proofs.Ytdgppdjjmpjgkaa
