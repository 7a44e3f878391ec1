/- The walk of FnExactNewTable. -/
import Derived.Test.YtmbomjmenbfhmaaUNew
namespace Go.Proofs.Ytmbomjmenbfhmaa
open Go.RowKit
set_option linter.unusedVariables false
set_option linter.unusedSimpArgs false

set_option maxRecDepth 16000 in
set_option maxHeartbeats 8000000 in
theorem walk_newTable (a0 : Int) (w : World) :
    Calls Try.prog 5 #[.int .i64 a0] w fun e w' => e = .returned (.bool true) ∧ Below w.heap.size w w' := by
  have CS := hid (fun wx => cNewTableS a0 wx)
  have CI := hid (fun wx => cNewTableI a0 wx)
  have hr := newT_rows a0
  have CQ := hid (fun (wx : World) => cEqTable (newT a0).1 none none 0 0 wx (by rw [hr]; exact RoRow.nil _ _) (by rw [hr]; exact RoRow.nil _ _) (by rw [hr]; exact fun x hx => (List.not_mem_nil hx).elim) (by rw [hr]; exact Nat.zero_le _))
  have CM := hid (fun (wx : World) => cMarkTable (newT a0).1 none 0 0 wx (by rw [hr]; exact OwnRo.nil _ _ _) (by rw [hr]; exact Nat.zero_le _))
  have CH := hid (fun (wx : World) => cHeldTable (newT a0).1 none 0 wx (by rw [hr]; exact fun h => absurd h (Nat.lt_irrefl 0)) (by rw [hr]; exact Nat.zero_le _))
  unfold tbV at CS CI CQ CM CH
  obtain ⟨R, hR⟩ : ∃ R, newT a0 = R := ⟨_, rfl⟩
  rw [hR] at CS CI CQ CM CH hr
  rw [hr] at CS CI CQ CM CH
  simp only [List.length_nil, Nat.mul_zero, Nat.add_zero] at CS CI CQ CM CH
  generalize R.1.most = rm at *
  generalize R.2 = rx at *
  clear hR hr
  have e9 : (rx != rx) = false := by simp
  go_enter Try.func5, Try.ntmps5
  go_wp2_with fail
  refine (CS.out _).mono ?_
  rintro e w1 ⟨rfl, hb1⟩
  have HQ := hid (TbBox.new w1 rm (.slice none 0 0) 26)
  have HZ := hid ((Below.refl w1.heap.size w1).alloc (Nat.le_refl _) (.cells #[.int .i64 rm, .slice none 0 0] 26))
  go_wp2_with fail
  obtain ⟨w2, hw2⟩ : ∃ w2, w1.alloc (.cells #[.int .i64 rm, .slice none 0 0] 26) = w2 := ⟨_, rfl⟩
  simp only [hw2] at HQ HZ ⊢
  clear hw2
  have D2 := hid (bb hb1 HZ.out)
  obtain ⟨B, hB⟩ : ∃ B, w1.heap.size = B := ⟨_, rfl⟩
  simp only [hB] at HQ ⊢
  clear hB
  clear hb1 HZ
  go_wp2_with fail
  refine (CI.out _).mono ?_
  rintro e w3 ⟨rfl, hb3⟩
  have HG := hid (TbBox.new w3 rm (.slice none 0 0) 26)
  have HZ := hid ((Below.refl w3.heap.size w3).alloc (Nat.le_refl _) (.cells #[.int .i64 rm, .slice none 0 0] 26))
  have HQx := hid (HQ.out.below (bb hb3 HZ.out))
  obtain ⟨q0, q1⟩ := And.intro HQx.out.c0 HQx.out.c1
  obtain ⟨g0, g1⟩ := And.intro HG.out.c0 HG.out.c1
  go_wp2_with fail
  obtain ⟨w4, hw4⟩ : ∃ w4, w3.alloc (.cells #[.int .i64 rm, .slice none 0 0] 26) = w4 := ⟨_, rfl⟩
  simp only [hw4] at HG HZ HQx ⊢
  have D4 := hid (bb D2.out (bb hb3 HZ.out))
  have HQ4 := hid HQx.out
  obtain ⟨G, hG⟩ : ∃ G, w3.heap.size = G := ⟨_, rfl⟩
  simp only [hG] at HG ⊢
  clear hb3 HZ D2 HQ HQx q0 q1 g0 g1 hw4 hG
  refine (CQ.out _).mono ?_
  rintro e w5 ⟨rfl, hb5⟩
  have D5 := hid (bb D4.out hb5)
  have HQ5 := hid (HQ4.out.below hb5)
  have HG5 := hid (HG.out.below hb5)
  clear hb5 D4 HQ4 HG
  obtain ⟨g0, g1⟩ := And.intro HG5.out.c0 HG5.out.c1
  go_wp2_with fail
  refine (CM.out _).mono ?_
  rintro e w6 ⟨rfl, _, hk6⟩
  have hb6 : Below w5.heap.size w5 w6 := hk6.below (Nat.le_refl _) (fun b ⟨o, e, _⟩ => by cases e)
  have D6 := hid (bb D5.out hb6)
  have HQ6 := hid (HQ5.out.below hb6)
  have HG6 := hid (HG5.out.below hb6)
  clear hb6 hk6 D5 HQ5 HG5 g0 g1
  obtain ⟨g0, g1⟩ := And.intro HG6.out.c0 HG6.out.c1
  go_wp2_with fail
  refine (CH.out _).mono ?_
  rintro e w7 ⟨rfl, hb7⟩
  have D7 := hid (bb D6.out hb7)
  have HQ7 := hid (HQ6.out.below hb7)
  have HG7 := hid (HG6.out.below hb7)
  clear hb7 D6 HQ6 HG6 g0 g1
  go_wp2_with fail
  refine (CI.out _).mono ?_
  rintro e w8 ⟨rfl, hb8⟩
  have HI9 := hid (TbBox.new w8 rm (.slice none 0 0) 26)
  have HZ := hid ((Below.refl w8.heap.size w8).alloc (Nat.le_refl _) (.cells #[.int .i64 rm, .slice none 0 0] 26))
  have HQx := hid (HQ7.out.below (bb hb8 HZ.out))
  have HGx := hid (HG7.out.below (bb hb8 HZ.out))
  obtain ⟨q0, q1⟩ := And.intro HQx.out.c0 HQx.out.c1
  obtain ⟨i0, i1⟩ := And.intro HI9.out.c0 HI9.out.c1
  go_wp2_with fail
  obtain ⟨w9, hw9⟩ : ∃ w9, w8.alloc (.cells #[.int .i64 rm, .slice none 0 0] 26) = w9 := ⟨_, rfl⟩
  simp only [hw9] at HI9 HZ HQx HGx ⊢
  have D9 := hid (bb D7.out (bb hb8 HZ.out))
  have HG9 := hid HGx.out
  clear hb8 HZ D7 HQ7 HG7 HQx HGx q0 q1 i0 i1 HI9 hw9
  refine (CQ.out _).mono ?_
  rintro e w10 ⟨rfl, hb10⟩
  have D10 := hid (bb D9.out hb10)
  have HG10 := hid (HG9.out.below hb10)
  clear hb10 D9 HG9
  obtain ⟨g0, g1⟩ := And.intro HG10.out.c0 HG10.out.c1
  go_wp2_with fail
  refine (CH.out _).mono ?_
  rintro e w11 ⟨rfl, hb11⟩
  have D11 := hid (bb D10.out hb11)
  clear hb11
  go_wp2_with fail
  go_ret
  exact ⟨rfl, D11.out⟩

end Go.Proofs.Ytmbomjmenbfhmaa
