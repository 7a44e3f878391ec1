/- Contract of the draw of a text that may be a time. -/
import Derived.Test.YtbphbjkmgmgpkaaDoorTDrawT
namespace Go.Proofs.YtbphbjkmgmgpkaaDoor
open Go.RowKit
set_option linter.unusedVariables false
set_option linter.unusedSimpArgs false

def fiveObj : Obj := .cells #[.string ⟨#[50, 48, 48, 49, 45, 48, 50, 45, 50, 57, 84, 48, 48, 58, 48, 48, 58, 48, 48, 90]⟩, .string ⟨#[50, 48, 48, 48, 45, 48, 50, 45, 50, 57, 84, 50, 51, 58, 53, 57, 58, 53, 57, 90]⟩, .string ⟨#[50, 49, 48, 48, 45, 48, 49, 45, 48, 49, 84, 48, 48, 58, 48, 48, 58, 48, 48, 90]⟩, .string ⟨#[50, 48, 48, 48, 45, 48, 49, 45, 48, 49, 84, 50, 52, 58, 48, 48, 58, 48, 48, 90]⟩, .string ⟨#[50, 48, 48, 48, 45, 48, 49, 45, 48, 49, 84, 48, 48, 58, 54, 48, 58, 48, 48, 90]⟩] 9 (0, 0)

theorem five_at (w : World) (B x : Nat) (hx : x < 5) (h : w.heap[B]? = some fiveObj) : ∃ t : ByteArray, w.cell? ⟨B, x, none⟩ = some (.string t) := by
  rw [Lib.cell_of_heap h]
  rcases (show x = 0 ∨ x = 1 ∨ x = 2 ∨ x = 3 ∨ x = 4 from by omega) with rfl | rfl | rfl | rfl | rfl
  all_goals exact ⟨_, rfl⟩

theorem textOf_size (t : Nat) (h : t ≤ 3155759999) : (⟨(textOf t).toArray⟩ : ByteArray).size = 20 := by
  rw [size_mk]
  exact isText_length (textOf_is h)

set_option maxHeartbeats 4000000 in
theorem cOfD (a : Option Addr) (len cap : Nat) (w : World) (hlen : len ≤ 4096) (hcr : CodeRow w a len) :
    Calls Tryd.prog 10 #[.slice a len cap] w fun e w' => ∃ u : ByteArray, e = .returned (.string u) ∧ Below w.heap.size w w' := by
  have HR : Hid (CodeRow w a len) := hcr
  clear hcr
  go_enter Tryd.func10, Tryd.ntmps10
  go_wp2_with fail
  refine (cNew a len cap _ hlen HR.out).mono ?_
  rintro e w1 ⟨rfl, hC1⟩
  go_wp2_with fail
  refine (cTDraw w a len cap _ _ hlen HR.out hC1).mono ?_
  rintro e w2 ⟨t, rfl, ht, hC2⟩
  have hsz := textOf_size t ht
  have CT := cTextS t w2
  obtain ⟨X, hX⟩ : ∃ X : ByteArray, (⟨(textOf t).toArray⟩ : ByteArray) = X := ⟨_, rfl⟩
  rw [hX] at hsz CT
  have HC2 : Hid (Cur w a len cap w.heap.size w2) := hC2
  clear hX hC1 hC2
  go_wp2_with fail
  refine CT.mono ?_
  rintro e w3 ⟨rfl, hb3⟩
  have HC3 : Hid (Cur w a len cap w.heap.size w3) := HC2.out.belowT hb3
  clear hb3 CT
  go_wp2_with fail
  refine (cOnce 2 w a len cap _ _ hlen HR.out HC3.out (by decide) (by decide)).mono ?_
  rintro e w4 ⟨q, rfl, hC4, _⟩
  have HC4 : Hid (Cur w a len cap w.heap.size w4) := hC4
  clear hC4
  cases q
  · go_wp2_with fail
    refine (cOnce 12 w a len cap _ _ hlen HR.out HC4.out (by decide) (by decide)).mono ?_
    rintro e w6 ⟨q2, rfl, hC6, _⟩
    have HC6 : Hid (Cur w a len cap w.heap.size w6) := hC6
    clear hC6
    cases q2
    · go_wp2
      go_ret
      exact ⟨_, rfl, HC6.out.2.1⟩
    · have HN : Hid ((w6.alloc fiveObj).heap[w6.heap.size]? = some fiveObj) := heap_alloc_new w6 _
      have hbl : w.heap.size < w6.heap.size := HC6.out.lt
      go_wp2_with fail
      refine (cBelow 5 w a len cap _ _ hlen HR.out (HC6.out.alloc _) (by decide) (by decide)).mono ?_
      rintro e w7 ⟨x, rfl, hx, hC7, hG7⟩
      obtain ⟨v, hv⟩ := five_at w7 w6.heap.size x hx ((hG7.block w6.heap.size (by simp) (by simp; omega)).trans HN.out)
      have hxi : (x : Int) < 5 := by omega
      have HC7 : Hid (Cur w a len cap w.heap.size w7) := hC7
      clear hC7 hG7 hbl
      go_wp2
      go_ret
      exact ⟨_, rfl, HC7.out.2.1⟩
  · go_wp2_with fail
    refine (cBend X ⟨#[48, 49, 50, 51, 45, 58, 84, 90]⟩ w a len cap _ _ (by omega) (by decide) (by decide) hlen HR.out HC4.out).mono ?_
    rintro e w5 ⟨v5, rfl, hv5, hC5, _⟩
    have HC5 : Hid (Cur w a len cap w.heap.size w5) := hC5
    clear hC5 hv5
    go_wp2_with fail
    refine (cOnce 12 w a len cap _ _ hlen HR.out HC5.out (by decide) (by decide)).mono ?_
    rintro e w6 ⟨q2, rfl, hC6, _⟩
    have HC6 : Hid (Cur w a len cap w.heap.size w6) := hC6
    clear hC6
    cases q2
    · go_wp2
      go_ret
      exact ⟨_, rfl, HC6.out.2.1⟩
    · have HN : Hid ((w6.alloc fiveObj).heap[w6.heap.size]? = some fiveObj) := heap_alloc_new w6 _
      have hbl : w.heap.size < w6.heap.size := HC6.out.lt
      go_wp2_with fail
      refine (cBelow 5 w a len cap _ _ hlen HR.out (HC6.out.alloc _) (by decide) (by decide)).mono ?_
      rintro e w7 ⟨x, rfl, hx, hC7, hG7⟩
      obtain ⟨v, hv⟩ := five_at w7 w6.heap.size x hx ((hG7.block w6.heap.size (by simp) (by simp; omega)).trans HN.out)
      have hxi : (x : Int) < 5 := by omega
      have HC7 : Hid (Cur w a len cap w.heap.size w7) := hC7
      clear hC7 hG7 hbl
      go_wp2
      go_ret
      exact ⟨_, rfl, HC7.out.2.1⟩

end Go.Proofs.YtbphbjkmgmgpkaaDoor
