/- The draws of DrawHolds, DrawRemoved, DrawNewTable. -/
import Derived.Test.YtmbomjmenbfhmaaUDrD
namespace Go.Proofs.Ytmbomjmenbfhmaa
open Go.RowKit
set_option linter.unusedVariables false
set_option linter.unusedSimpArgs false

/-- A table and an id that are drawn. -/
def DrawnT (w : World) (e : Ending) (w' : World) : Prop :=
  ∃ t a' c' id, e = .returned (.tuple #[tbV t a' c', .string id]) ∧ RoRow w' a' t.rows ∧ t.rows.length ≤ 6 ∧ RoSz 10 t.rows ∧ id.size ≤ 10 ∧ Below w.heap.size w w'

set_option maxHeartbeats 4000000 in
theorem cDrawHolds (a : Option Addr) (len cap : Nat) (w : World) (hlen : len ≤ 4096) (hcr : CodeRow w a len) :
    Calls Try.prog 40 #[.slice a len cap] w (DrawnT w) := by
  have HB0 := hid ((Below.refl w.heap.size w).alloc (Nat.le_refl _) (.cells #[.int .i64 0, .slice none 0 0] 26))
  have HCR := hid (code_below hcr HB0.out)
  have HR0 := hid (heap_alloc_new w (.cells #[.int .i64 0, .slice none 0 0] 26))
  clear hcr
  go_enter Try.func40, Try.ntmps40
  go_wp2_with fail
  obtain ⟨W, hW⟩ : ∃ W, w.alloc (.cells #[.int .i64 0, .slice none 0 0] 26) = W := ⟨_, rfl⟩
  rw [hW] at HB0 HR0 HCR ⊢
  clear hW
  obtain ⟨R, hR⟩ : ∃ R, w.heap.size = R := ⟨_, rfl⟩
  have HRw := hid (show w.heap.size ≤ R by omega)
  rw [hR] at HR0 ⊢
  refine (cDrawEntered a len cap _ hlen HCR.out).mono ?_
  rintro e w1 ⟨⟨m, l⟩, a', c', id, z, rfl, hRo, hl, hz, hi, hb1⟩
  obtain ⟨ln, hln⟩ : ∃ ln, l.length = ln := ⟨_, rfl⟩
  simp only [tbV, hln]
  have HA := hid ((Below.refl w1.heap.size w1).alloc (Nat.le_refl _) (.cells #[.int .i64 m, .slice a' ln c'] 26))
  have HBa := hid (bb HB0.out (bb hb1 HA.out))
  have HRa := hid (hRo.below HA.out)
  have HR1 := hid (u_blk_below (u_blk_below HR0.out hb1) HA.out)
  have HP1 := hid (heap_alloc_new w1 (.cells #[.int .i64 m, .slice a' ln c'] 26))
  obtain ⟨⟨p0, p1⟩, _, _⟩ := u_box2f HP1.out
  obtain ⟨⟨r0, r1⟩, r2, r3⟩ := u_box2f HR1.out
  have HL := hid hl
  have HZ := hid hz
  have HI := hid hi
  have HE := hid (tb_end (w1 := w) (P := 0) (m := m) (c' := c') HRa.out HR1.out HRw.out HBa.out)
  rw [hln] at HE
  clear hRo hl hz hi hb1
  go_wp2_with fail
  refine bodyPost_ret (v := .tuple #[tbV ⟨m, l⟩ a' c', .string id]) (by simp [results, Try.results40, go_sem, r0, r1, tbV, hln]) rfl ⟨⟨m, l⟩, a', c', id, rfl, HE.out.1, HL.out, HZ.out, HI.out, HE.out.2⟩

set_option maxHeartbeats 4000000 in
theorem cDrawRemoved (a : Option Addr) (len cap : Nat) (w : World) (hlen : len ≤ 4096) (hcr : CodeRow w a len) :
    Calls Try.prog 12 #[.slice a len cap] w (DrawnT w) := by
  have HB0 := hid ((Below.refl w.heap.size w).alloc (Nat.le_refl _) (.cells #[.int .i64 0, .slice none 0 0] 26))
  have HCR := hid (code_below hcr HB0.out)
  have HR0 := hid (heap_alloc_new w (.cells #[.int .i64 0, .slice none 0 0] 26))
  clear hcr
  go_enter Try.func12, Try.ntmps12
  go_wp2_with fail
  obtain ⟨W, hW⟩ : ∃ W, w.alloc (.cells #[.int .i64 0, .slice none 0 0] 26) = W := ⟨_, rfl⟩
  rw [hW] at HB0 HR0 HCR ⊢
  clear hW
  obtain ⟨R, hR⟩ : ∃ R, w.heap.size = R := ⟨_, rfl⟩
  have HRw := hid (show w.heap.size ≤ R by omega)
  rw [hR] at HR0 ⊢
  refine (cDrawHolds a len cap _ hlen HCR.out).mono ?_
  rintro e w1 ⟨⟨m, l⟩, a', c', id, rfl, hRo, hl, hz, hi, hb1⟩
  obtain ⟨ln, hln⟩ : ∃ ln, l.length = ln := ⟨_, rfl⟩
  simp only [tbV, hln]
  have HBa := hid (bb HB0.out hb1)
  have HR1 := hid (u_blk_below HR0.out hb1)
  obtain ⟨⟨r0, r1⟩, r2, r3⟩ := u_box2f HR1.out
  have HL := hid hl
  have HZ := hid hz
  have HI := hid hi
  have HE := hid (tb_end (w1 := w) (P := 0) (m := m) (c' := c') hRo HR1.out HRw.out HBa.out)
  rw [hln] at HE
  clear hRo hl hz hi hb1
  go_wp2_with fail
  refine bodyPost_ret (v := .tuple #[tbV ⟨m, l⟩ a' c', .string id]) (by simp [results, Try.results12, go_sem, r0, r1, tbV, hln]) rfl ⟨⟨m, l⟩, a', c', id, rfl, HE.out.1, HL.out, HZ.out, HI.out, HE.out.2⟩

theorem cFromU (w0 : World) (a : Option Addr) (len cap b : Nat) (w : World) (hlen : len ≤ 4096) (hcr : CodeRow w0 a len) (hC : Cur w0 a len cap b w) :
    Calls Try.prog 42 #[.pointer (some ⟨b, 0, none⟩), .int .i64 (-1), .int .i64 22] w fun e w' => ∃ x : Int, e = .returned (.int .i64 x) ∧ Cur w0 a len cap b w' := by
  have HCR := hid hcr
  have HC := hid hC
  clear hcr hC
  go_enter Try.func42, Try.ntmps42
  go_wp2_with fail
  refine (cBelow 24 w0 a len cap b _ hlen HCR.out HC.out (by decide) (by decide)).mono ?_
  rintro e w1 ⟨x, rfl, hx, hC1, hG1⟩
  have HC1 := hid hC1
  have hx2 : (x : Int) < 300 := by omega
  clear hC1 hG1
  go_wp2_with fail
  go_ret
  exact ⟨_, rfl, HC1.out⟩

theorem cDrawNewTable (a : Option Addr) (len cap : Nat) (w : World) (hlen : len ≤ 4096) (hcr : CodeRow w a len) :
    Calls Try.prog 14 #[.slice a len cap] w fun e w' => ∃ x : Int, e = .returned (.int .i64 x) ∧ Below w.heap.size w w' := by
  have HCR := hid hcr
  clear hcr
  go_enter Try.func14, Try.ntmps14
  go_wp2_with fail
  refine (cNew a len cap _ hlen HCR.out).mono ?_
  rintro e w1 ⟨rfl, hC1⟩
  have HC1 := hid hC1
  clear hC1
  go_wp2_with fail
  refine (cFromU w a len cap _ _ hlen HCR.out HC1.out).mono ?_
  rintro e w2 ⟨x, rfl, hC2⟩
  have HB2 := hid hC2.2.1
  clear hC2
  go_wp2_with fail
  go_ret
  exact ⟨_, rfl, HB2.out⟩

end Go.Proofs.Ytmbomjmenbfhmaa
