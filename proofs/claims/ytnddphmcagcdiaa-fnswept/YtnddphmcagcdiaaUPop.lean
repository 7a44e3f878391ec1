/- The heap of rows: Pop. -/
import Derived.Test.YtnddphmcagcdiaaUPush
namespace Go.Proofs.Ytnddphmcagcdiaa
open Go.RowKit
set_option linter.unusedVariables false
set_option linter.unusedSimpArgs false

theorem Wt.cap {w : World} {B R g c : Nat} {l : List Ro} (h : Wt w B R g c l) : l.length ≤ c := by
  rcases h.own.2 with ⟨e1, _⟩ | ⟨g2, cp, cur, e1, k1, k2, k3, k4, k5, k6⟩
  · cases e1
  · cases e1
    exact k3

theorem roC_cut (l : List Ro) (n : Nat) : (roC l).take (n * 2) = roC (l.take n) := by
  have e : roC l = roC (l.take n) ++ roC (l.drop n) := by rw [← roC_app, List.take_append_drop]
  rcases Nat.lt_or_ge n l.length with h | h
  · rw [e, List.take_append_of_le_length (by rw [roC_len, List.length_take]; omega), List.take_of_length_le (by rw [roC_len, List.length_take]; omega)]
  · rw [List.take_of_length_le (by rw [roC_len]; omega), List.take_of_length_le h]

theorem own_cut {w : World} {B g c n : Nat} {l : List Ro} (h : w.ownsRow B 33 2 (.slice (some ⟨g, 0, none⟩) l.length c) l.length (roC l)) (hl : l.length = n + 1) : w.ownsRow B 33 2 (.slice (some ⟨g, 0, none⟩) n c) n (roC (l.take n)) := by
  rcases h.2 with ⟨e1, _⟩ | ⟨g2, cp, cur, e1, k1, k2, k3, k4, k5, k6⟩
  · cases e1
  · cases e1
    refine ⟨by rw [roC_len, List.length_take]; congr 1; omega, .inr ⟨g, c, cur, rfl, k1, k2, by omega, k4, k5, ?_⟩⟩
    rw [← roC_cut, ← k6, List.take_take]
    congr 1
    omega

set_option maxRecDepth 8000 in
set_option maxHeartbeats 4000000 in
theorem cWPop (B R g c n : Nat) (l : List Ro) (w : World) (hW : Wt w B R g c l) (hl : l.length = n + 1) (hRB : R < B) (hB : B ≤ w.heap.size) (hn : l.length ≤ 100000) :
    Calls Try.prog 102 #[.pointer (some ⟨R, 0, none⟩)] w fun e w' => ∃ v : Value, e = .returned v ∧ Wt w' B R g c (l.take n) ∧ Below R w w' := by
  have hc := hW.cap
  have HO := hid (own_cut hW.own hl)
  have HLN := hid (show (l.take n).length = n by rw [List.length_take]; omega)
  obtain ⟨b, o, e0, hb, c1, c2⟩ := hW.row n (by omega)
  cases e0
  rw [Nat.zero_add] at c1 c2
  generalize (l[n]'(by omega)).id = x at *
  generalize (l[n]'(by omega)).til = y at *
  have HBX := hid hW.box
  have hne := hW.ne
  have q0 := u_box1c hW.box
  have q1 := u_box1f hW.box
  rw [hl] at hc q0 HBX
  have e1 : ((n + 1 : Nat) : Int) = (n : Int) + 1 := rfl
  have hw1 : IntKind.i64.wrap (n : Int) = (n : Int) := IntWalk.i64_in _ (by omega)
  have h1 : (n : Int) < (n : Int) + 1 := by omega
  have HB0 := hid ((Below.refl w.heap.size w).alloc (Nat.le_refl _) (.cells #[.string x, .int .i64 y] 33))
  have q2 := u_box1c (u_blk_below HBX.out HB0.out)
  have q3 := u_box1f (u_blk_below HBX.out HB0.out)
  go_enter Try.func102, Try.ntmps102
  go_wp2_with fail
  have HF := hid (show Wt ((w.alloc (.cells #[.string x, .int .i64 y] 33)).setCell ⟨R, 0, none⟩ (.slice (some ⟨g, 0, none⟩) n c)) B R g c (l.take n) ∧ Below R w ((w.alloc (.cells #[.string x, .int .i64 y] 33)).setCell ⟨R, 0, none⟩ (.slice (some ⟨g, 0, none⟩) n c)) from by
    refine ⟨⟨?_, ?_⟩, (HB0.out.mono (by omega)).setCell (Nat.le_refl R) _⟩
    · rw [HLN.out]
      exact set0_heap (u_blk_below HBX.out HB0.out)
    · rw [HLN.out]
      exact u_own_set (ownsRow_below HO.out HB0.out) (fun e => hne (Option.some.inj e)) _ _)
  go_ret
  first | exact HF.out | exact ⟨_, rfl, HF.out⟩ | exact ⟨⟨_, rfl⟩, HF.out⟩

end Go.Proofs.Ytnddphmcagcdiaa
