/- The draw of a table and a time: DrawSwept. -/
import Derived.Test.YtnddphmcagcdiaaUDrD
namespace Go.Proofs.Ytnddphmcagcdiaa
open Go.RowKit
set_option linter.unusedVariables false
set_option linter.unusedSimpArgs false

def swT (y : Nat) : Int := if y = 0 then 0 else if y = 1 then 30 else if y = 2 then 50 else if y = 3 then 70 else if y = 4 then 99 else -1

theorem swT_cell {W : World} {h y : Nat} (hh : W.heap[h]? = some (.cells #[.int .i64 0, .int .i64 30, .int .i64 50, .int .i64 70, .int .i64 99, .int .i64 (-1)] 2 (0, 0))) (hy : y < 6) : W.cell? ⟨h, y, none⟩ = some (.int .i64 (swT y)) := by
  have hy3 : y = 0 ∨ y = 1 ∨ y = 2 ∨ y = 3 ∨ y = 4 ∨ y = 5 := by omega
  rw [Lib.cell_of_heap hh]
  rcases hy3 with rfl | rfl | rfl | rfl | rfl | rfl <;> rfl

theorem swT_get {y : Nat} (hy : y < 6) : ∀ h, ([.int .i64 0, .int .i64 30, .int .i64 50, .int .i64 70, .int .i64 99, .int .i64 (-1)] : List Value)[y]'h = .int .i64 (swT y) := by
  have hy3 : y = 0 ∨ y = 1 ∨ y = 2 ∨ y = 3 ∨ y = 4 ∨ y = 5 := by omega
  rcases hy3 with rfl | rfl | rfl | rfl | rfl | rfl <;> exact fun _ => rfl

set_option maxRecDepth 8000 in
set_option maxHeartbeats 16000000 in
theorem cDrawSwept (a : Option Addr) (len cap : Nat) (w : World) (hlen : len ≤ 4096) (hcr : CodeRow w a len) :
    Calls Try.prog 6 #[.slice a len cap] w fun e w' => ∃ t a' c' z, e = .returned (.tuple #[tbV t a' c', .int .i64 z]) ∧ RoRow w' a' t.rows ∧ t.rows.length ≤ 6 ∧ RoSz 10 t.rows ∧ Below w.heap.size w w' := by
  have HB0 := hid ((Below.refl w.heap.size w).alloc (Nat.le_refl _) (.cells #[.int .i64 0, .slice none 0 0] 26))
  have HCR := hid (code_below hcr HB0.out)
  have HR0 := hid (heap_alloc_new w (.cells #[.int .i64 0, .slice none 0 0] 26))
  clear hcr
  go_enter Try.func6, Try.ntmps6
  go_wp2_with fail
  obtain ⟨W, hW⟩ : ∃ W, w.alloc (.cells #[.int .i64 0, .slice none 0 0] 26) = W := ⟨_, rfl⟩
  rw [hW] at HB0 HR0 HCR ⊢
  clear hW
  obtain ⟨R, hR⟩ : ∃ R, w.heap.size = R := ⟨_, rfl⟩
  have HRw := hid (show w.heap.size ≤ R by omega)
  have HRlt := hid (show R < W.heap.size by rw [← hR]; exact lt_of_heap HR0.out)
  rw [hR] at HR0 ⊢
  refine (cNew a len cap _ hlen HCR.out).mono ?_
  rintro e w1 ⟨rfl, hC1⟩
  have HC1 := hid hC1
  clear hC1
  obtain ⟨b, hb⟩ : ∃ b, W.heap.size = b := ⟨_, rfl⟩
  simp only [hb] at HC1 ⊢
  go_wp2_with fail
  refine (cDrawTb W a len cap b _ hlen HCR.out HC1.out).mono ?_
  rintro e w2 ⟨⟨m, l⟩, a', c', rfl, hRo, hl, hz, hC2, _⟩
  have HT2 := hid hRo
  have HC2 := hid (hC2.alloc (.cells #[.int .i64 m, .slice a' l.length c'] 26))
  have HL := hid hl
  have HZ := hid hz
  have HRo := hid (hRo.below ((Below.refl w2.heap.size w2).alloc (Nat.le_refl _) (.cells #[.int .i64 m, .slice a' l.length c'] 26)))
  have HP2 := hid (heap_alloc_new w2 (.cells #[.int .i64 m, .slice a' l.length c'] 26))
  clear hRo hl hz hC2 HC1
  simp only [tbV]
  obtain ⟨ln, hln⟩ : ∃ ln, l.length = ln := ⟨_, rfl⟩
  simp only [hln] at HRo HP2 HC2 ⊢
  go_wp2_with fail
  obtain ⟨w4, hW2⟩ : ∃ W, w2.alloc (.cells #[.int .i64 m, .slice a' ln c'] 26) = W := ⟨_, rfl⟩
  rw [hW2] at HRo HP2 HC2
  try simp only [hW2]
  clear hW2
  obtain ⟨P, hP⟩ : ∃ P, w2.heap.size = P := ⟨_, rfl⟩
  rw [hP] at HP2
  try simp only [hP]
  clear hP
  have HS4 := hid (EnS.mk HC2.out HRo.out HP2.out (u_blk_below HR0.out HC2.out.2.1) : EnS W a len cap b P R m l a' ln c' w4)
  have HSd := hid (HS4.out.below ((Below.refl w4.heap.size w4).drew))
  have HBa := hid ((Below.refl w4.drew.heap.size w4.drew).alloc (Nat.le_refl _) (.cells #[.int .i64 0, .int .i64 30, .int .i64 50, .int .i64 70, .int .i64 99, .int .i64 (-1)] 2))
  have HSa := hid (HSd.out.below HBa.out)
  have HSb := hid (HS4.out.below ((Below.refl w4.heap.size w4).alloc (Nat.le_refl _) (.cells #[.int .i64 0, .int .i64 30, .int .i64 50, .int .i64 70, .int .i64 99, .int .i64 (-1)] 2)))
  have HIa := hid (heap_alloc_new w4.drew (.cells #[.int .i64 0, .int .i64 30, .int .i64 50, .int .i64 70, .int .i64 99, .int .i64 (-1)] 2))
  have HbI := hid (show ¬ b = w4.drew.heap.size from fun e => by have := HSd.out.c.lt; omega)
  obtain ⟨⟨p0, p1⟩, p2, p3⟩ := u_box2f HSd.out.p
  obtain ⟨⟨q0, q1⟩, q2, q3⟩ := u_box2f HSa.out.p
  obtain ⟨⟨d0, d1⟩, d2, d3⟩ := u_box2f HSb.out.p
  have n1 : ¬ R = w4.heap.size := fun e => by have := lt_of_heap HS4.out.r; omega
  have n2 : ¬ w4.heap.size = R := fun e => n1 e.symm
  clear HS4 HC2 HRo HP2
  all_goals
    try go_wp2_with fail
    go_region_law (go_simp; go_at_call 21; refine (cBelow 6 W a len cap b _ hlen HCR.out (by first | exact HSd.out.c | exact HSa.out.c) (by decide) (by decide)).mono ?_; rintro e w7 ⟨y, rfl, hy, hC7, hg7⟩
                   first
                    | (have HS7 := hid (HSd.out.draw hC7 hg7))
                    | (have HS7 := hid (HSa.out.draw hC7 hg7); have zc := (show w7.cell? ⟨w4.heap.size, y, none⟩ = some (.int .i64 (swT y)) from swT_cell (blk_draw HIa.out hg7 HbI.out) hy))
                   obtain ⟨⟨r0, r1⟩, r2, r3⟩ := u_box2f HS7.out.p
                   obtain ⟨⟨t0, t1⟩, t2, t3⟩ := u_box2f HS7.out.r
                   have HS8 := hid (HS7.out.below ((Below.refl w7.heap.size w7).alloc (Nat.le_refl _) (.cells #[.int .i64 0, .int .i64 30, .int .i64 50, .int .i64 70, .int .i64 99, .int .i64 (-1)] 2)))
                   obtain ⟨⟨s0, s1⟩, s2, s3⟩ := u_box2f HS8.out.p
                   obtain ⟨⟨x0, x1⟩, x2, x3⟩ := u_box2f HS8.out.r
                   have zd := swT_cell (heap_alloc_new w7 (.cells #[.int .i64 0, .int .i64 30, .int .i64 50, .int .i64 70, .int .i64 99, .int .i64 (-1)] 2)) hy
                   have n3 : ¬ R = w7.heap.size := fun e => by have := lt_of_heap HS7.out.r; omega
                   have n4 : ¬ w7.heap.size = R := fun e => n3 e.symm
                   have hy3 : (y : Int) < 6 := by omega
                   have ze : ∀ h, ([.int .i64 0, .int .i64 30, .int .i64 50, .int .i64 70, .int .i64 99, .int .i64 (-1)] : List Value)[y]'h = .int .i64 (swT y) := swT_get hy
                   generalize swT y = Z at *
                   clear hC7 hg7)
    all_goals
      have HE7 := hid (HS7.out.fin HB0.out HRw.out hln)
      have HE8 := hid (HS8.out.fin HB0.out HRw.out hln)
      have FH := hid (set2_heap (u := .int .i64 m) (v := .slice a' ln c') HS7.out.r)
      obtain ⟨⟨f0, f1⟩, _, _⟩ := u_box2f (u_blk_below FH.out ((Below.refl _ _).alloc (Nat.le_refl _) (.cells #[.int .i64 0, .int .i64 30, .int .i64 50, .int .i64 70, .int .i64 99, .int .i64 (-1)] 2)))
      go_wp2_with fail
      refine bodyPost_ret (v := .tuple #[tbV ⟨m, l⟩ a' c', .int .i64 Z]) (by simp [results, Try.results6, go_sem, t0, t1, x0, x1, f0, f1, n3, n4, ze, tbV, hln]) rfl ⟨⟨m, l⟩, a', c', _, rfl, ?_, HL.out, HZ.out, ?_⟩
      · first
          | exact HE7.out.1
          | exact HE8.out.1
          | exact HE7.out.1.below ((Below.refl _ _).alloc (Nat.le_refl _) _)
      · first
          | exact HE7.out.2
          | exact HE8.out.2
          | exact HE7.out.2.alloc HE7.out.2.size _

end Go.Proofs.Ytnddphmcagcdiaa
