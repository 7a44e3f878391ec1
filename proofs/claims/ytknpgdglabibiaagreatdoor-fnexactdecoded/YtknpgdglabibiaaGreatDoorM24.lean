/- What a claim hears, kind by kind: contracts of the program's functions in the table of kids. What a claim hears of its term. What a tree says as a claim, as a function of the nodes. -/
import Derived.Test.YtknpgdglabibiaaGreatDoorM21
import Derived.Test.YtknpgdglabibiaaGreatDoorM22
import Derived.Test.YtknpgdglabibiaaGreatDoorM23
import Derived.Test.YtknpgdglabibiaaGreatDoorM14
import Derived.Test.YtknpgdglabibiaaGreatDoorM11
import Derived.Test.YtknpgdglabibiaaGreatDoorM10
import Derived.Test.YtknpgdglabibiaaGreatDoorM13
import Derived.Deep.RegionHeld3
namespace Go.Proofs.YtknpgdglabibiaaGreatDoor
open Go.RowKit
set_option linter.unusedVariables false
set_option linter.unusedSimpArgs false

/-- The claim in its box, its facts that value. -/
def ClH (w : World) (bc : Nat) (c : Cm) (v : Value) : Prop := w.heap[bc]? = some (.cells #[.string c.id, .string c.iss, .string c.sub, .int .i64 c.frm, .int .i64 c.til, .string c.whom, .string c.ans, v] 26 (0, 0))

theorem sz0 (x : ByteArray) : decide (x.size = 0) = decide (x = ByteArray.empty) :=
  decide_eq_decide.mpr ⟨fun h => ByteArray.ext (Array.eq_empty_of_size_eq_zero h), fun h => by subst h; rfl⟩

set_option maxRecDepth 8000 in
set_option maxHeartbeats 4000000 in
theorem cHeard1 (b bc : Nat) (T : TypeId) (c : Cm) (v : Value) (a1 : Option Addr) (n1 c1 : Nat) (tx : ByteArray) (w : World) (hb : w.heap[b]? = some (.cells #[.func (.func 56) #[] #[]] T (0, 0))) (hc : ClH w bc c v) (hne : ¬ b = bc) :
    Calls Tryz.prog 105 #[.pointer (some ⟨bc, 0, none⟩), .agg #[.slice a1 n1 c1, .string tx], .pointer (some ⟨b, 0, none⟩)] w fun e w' => e = .returned (.bool (!decide (tx.size = 0))) ∧ ClH w' bc { c with iss := tx } v ∧ KeepB (fun k => k = bc) w w' := by
  have CF := hid (fun wx => cField1 bc wx)
  have HB0 := hid ((Below.refl w.heap.size w).alloc (Nat.le_refl _) (.cells #[.slice a1 n1 c1, .string tx] 89))
  have M0 := hid (heap_alloc_new w (.cells #[.slice a1 n1 c1, .string tx] 89))
  have MB := hid (blk_alloc hb (.cells #[.slice a1 n1 c1, .string tx] 89))
  have MC := hid (show ClH (w.alloc (.cells #[.slice a1 n1 c1, .string tx] 89)) bc c v from blk_alloc hc _)
  obtain ⟨w0, hw0⟩ : ∃ w0, w.alloc (.cells #[.slice a1 n1 c1, .string tx] 89) = w0 := ⟨_, rfl⟩
  rw [hw0] at HB0 M0 MB MC
  have hsb : ¬ w.heap.size = bc := fun e => by have := lt_of_heap hc; omega
  obtain ⟨sb, hs⟩ : ∃ g, w.heap.size = g := ⟨_, rfl⟩
  rw [hs] at M0 hsb
  obtain ⟨⟨p0, p1, p2, p3, p4, p5, p6, p7⟩, pf0, pf1, pf2, pf3, pf4, pf5, pf6, pf7⟩ := box8 MC.out
  have HM := hid (show ClH (w0.setCell ⟨bc, 1, none⟩ (.string tx)) bc { c with iss := tx } v from heap_setCell_same w0 bc 1 _ _ (.string tx) MC.out)
  have HK := hid ((KeepB.of_below (fun k => k = bc) HB0.out).trans (KeepB.of_set (p := fun k => k = bc) w0 1 (.string tx) rfl))
  have HS0 := hid (show w0.drew.cell? ⟨b, 0, none⟩ = some (.func (.func 56) #[] #[]) ∧ w0.drew.cell? ⟨sb, 1, none⟩ = some (.string tx) from ⟨by rw [Lib.cell_of_heap (w := w0.drew) MB.out]; rfl, by rw [Lib.cell_of_heap (w := w0.drew) M0.out]; rfl⟩)
  have HS1 := hid (show (w0.drew.setCell ⟨bc, 1, none⟩ (.string tx)).cell? ⟨b, 0, none⟩ = some (.func (.func 56) #[] #[]) ∧ (w0.drew.setCell ⟨bc, 1, none⟩ (.string tx)).cell? ⟨sb, 1, none⟩ = some (.string tx) from ⟨by rw [Lib.cell_of_heap ((Below.heap_setCell w0.drew ⟨bc, 1, none⟩ (.string tx) b hne).trans MB.out)]; rfl, by rw [Lib.cell_of_heap ((Below.heap_setCell w0.drew ⟨bc, 1, none⟩ (.string tx) sb hsb).trans M0.out)]; rfl⟩)
  clear hb hc
  go_enter Tryz.func105, Tryz.ntmps105
  go_wp2_with fail
  go_region_held3 (fun w' => w'.cell? ⟨b, 0, none⟩ = some (.func (.func 56) #[] #[]) ∧ w'.cell? ⟨sb, 1, none⟩ = some (.string tx)) (first | exact HS0.out | exact HS1.out)
    (first
      | (go_at_call 56; refine (CF.out _).mono ?_; rintro e w1 ⟨rfl, hw1⟩; subst hw1))
  have z1 : (w0.setCell ⟨bc, 1, none⟩ (.string tx)).drew.cell? ⟨sb, 1, none⟩ = some (.string tx) := HS1.out.2
  clear p0 p1 p2 p3 p4 p5 p6 p7 pf0 pf1 pf2 pf3 pf4 pf5 pf6 pf7 hw0 HS0 HS1 CF
  go_wp2_with fail
  go_ret
  exact ⟨by first | rfl | simp [empty_is tx], HM.out, HK.out.drew⟩

set_option maxRecDepth 8000 in
set_option maxHeartbeats 4000000 in
theorem cHeard2 (b bc : Nat) (T : TypeId) (c : Cm) (v : Value) (a1 : Option Addr) (n1 c1 : Nat) (tx : ByteArray) (w : World) (hb : w.heap[b]? = some (.cells #[.func (.func 57) #[] #[]] T (0, 0))) (hc : ClH w bc c v) (hne : ¬ b = bc) :
    Calls Tryz.prog 105 #[.pointer (some ⟨bc, 0, none⟩), .agg #[.slice a1 n1 c1, .string tx], .pointer (some ⟨b, 0, none⟩)] w fun e w' => e = .returned (.bool (!decide (tx.size = 0))) ∧ ClH w' bc { c with sub := tx } v ∧ KeepB (fun k => k = bc) w w' := by
  have CF := hid (fun wx => cField2 bc wx)
  have HB0 := hid ((Below.refl w.heap.size w).alloc (Nat.le_refl _) (.cells #[.slice a1 n1 c1, .string tx] 89))
  have M0 := hid (heap_alloc_new w (.cells #[.slice a1 n1 c1, .string tx] 89))
  have MB := hid (blk_alloc hb (.cells #[.slice a1 n1 c1, .string tx] 89))
  have MC := hid (show ClH (w.alloc (.cells #[.slice a1 n1 c1, .string tx] 89)) bc c v from blk_alloc hc _)
  obtain ⟨w0, hw0⟩ : ∃ w0, w.alloc (.cells #[.slice a1 n1 c1, .string tx] 89) = w0 := ⟨_, rfl⟩
  rw [hw0] at HB0 M0 MB MC
  have hsb : ¬ w.heap.size = bc := fun e => by have := lt_of_heap hc; omega
  obtain ⟨sb, hs⟩ : ∃ g, w.heap.size = g := ⟨_, rfl⟩
  rw [hs] at M0 hsb
  obtain ⟨⟨p0, p1, p2, p3, p4, p5, p6, p7⟩, pf0, pf1, pf2, pf3, pf4, pf5, pf6, pf7⟩ := box8 MC.out
  have HM := hid (show ClH (w0.setCell ⟨bc, 2, none⟩ (.string tx)) bc { c with sub := tx } v from heap_setCell_same w0 bc 2 _ _ (.string tx) MC.out)
  have HK := hid ((KeepB.of_below (fun k => k = bc) HB0.out).trans (KeepB.of_set (p := fun k => k = bc) w0 2 (.string tx) rfl))
  have HS0 := hid (show w0.drew.cell? ⟨b, 0, none⟩ = some (.func (.func 57) #[] #[]) ∧ w0.drew.cell? ⟨sb, 1, none⟩ = some (.string tx) from ⟨by rw [Lib.cell_of_heap (w := w0.drew) MB.out]; rfl, by rw [Lib.cell_of_heap (w := w0.drew) M0.out]; rfl⟩)
  have HS1 := hid (show (w0.drew.setCell ⟨bc, 2, none⟩ (.string tx)).cell? ⟨b, 0, none⟩ = some (.func (.func 57) #[] #[]) ∧ (w0.drew.setCell ⟨bc, 2, none⟩ (.string tx)).cell? ⟨sb, 1, none⟩ = some (.string tx) from ⟨by rw [Lib.cell_of_heap ((Below.heap_setCell w0.drew ⟨bc, 2, none⟩ (.string tx) b hne).trans MB.out)]; rfl, by rw [Lib.cell_of_heap ((Below.heap_setCell w0.drew ⟨bc, 2, none⟩ (.string tx) sb hsb).trans M0.out)]; rfl⟩)
  clear hb hc
  go_enter Tryz.func105, Tryz.ntmps105
  go_wp2_with fail
  go_region_held3 (fun w' => w'.cell? ⟨b, 0, none⟩ = some (.func (.func 57) #[] #[]) ∧ w'.cell? ⟨sb, 1, none⟩ = some (.string tx)) (first | exact HS0.out | exact HS1.out)
    (first
      | (go_at_call 57; refine (CF.out _).mono ?_; rintro e w1 ⟨rfl, hw1⟩; subst hw1))
  have z1 : (w0.setCell ⟨bc, 2, none⟩ (.string tx)).drew.cell? ⟨sb, 1, none⟩ = some (.string tx) := HS1.out.2
  clear p0 p1 p2 p3 p4 p5 p6 p7 pf0 pf1 pf2 pf3 pf4 pf5 pf6 pf7 hw0 HS0 HS1 CF
  go_wp2_with fail
  go_ret
  exact ⟨by first | rfl | simp [empty_is tx], HM.out, HK.out.drew⟩

set_option maxRecDepth 8000 in
set_option maxHeartbeats 4000000 in
theorem cHeard3 (b bc : Nat) (T : TypeId) (c : Cm) (v : Value) (a1 : Option Addr) (n1 c1 : Nat) (tx : ByteArray) (w : World) (hb : w.heap[b]? = some (.cells #[.func (.func 60) #[] #[]] T (0, 0))) (hc : ClH w bc c v) (hne : ¬ b = bc) :
    Calls Tryz.prog 105 #[.pointer (some ⟨bc, 0, none⟩), .agg #[.slice a1 n1 c1, .string tx], .pointer (some ⟨b, 0, none⟩)] w fun e w' => e = .returned (.bool (!decide (tx.size = 0))) ∧ ClH w' bc { c with whom := tx } v ∧ KeepB (fun k => k = bc) w w' := by
  have CF := hid (fun wx => cField3 bc wx)
  have HB0 := hid ((Below.refl w.heap.size w).alloc (Nat.le_refl _) (.cells #[.slice a1 n1 c1, .string tx] 89))
  have M0 := hid (heap_alloc_new w (.cells #[.slice a1 n1 c1, .string tx] 89))
  have MB := hid (blk_alloc hb (.cells #[.slice a1 n1 c1, .string tx] 89))
  have MC := hid (show ClH (w.alloc (.cells #[.slice a1 n1 c1, .string tx] 89)) bc c v from blk_alloc hc _)
  obtain ⟨w0, hw0⟩ : ∃ w0, w.alloc (.cells #[.slice a1 n1 c1, .string tx] 89) = w0 := ⟨_, rfl⟩
  rw [hw0] at HB0 M0 MB MC
  have hsb : ¬ w.heap.size = bc := fun e => by have := lt_of_heap hc; omega
  obtain ⟨sb, hs⟩ : ∃ g, w.heap.size = g := ⟨_, rfl⟩
  rw [hs] at M0 hsb
  obtain ⟨⟨p0, p1, p2, p3, p4, p5, p6, p7⟩, pf0, pf1, pf2, pf3, pf4, pf5, pf6, pf7⟩ := box8 MC.out
  have HM := hid (show ClH (w0.setCell ⟨bc, 5, none⟩ (.string tx)) bc { c with whom := tx } v from heap_setCell_same w0 bc 5 _ _ (.string tx) MC.out)
  have HK := hid ((KeepB.of_below (fun k => k = bc) HB0.out).trans (KeepB.of_set (p := fun k => k = bc) w0 5 (.string tx) rfl))
  have HS0 := hid (show w0.drew.cell? ⟨b, 0, none⟩ = some (.func (.func 60) #[] #[]) ∧ w0.drew.cell? ⟨sb, 1, none⟩ = some (.string tx) from ⟨by rw [Lib.cell_of_heap (w := w0.drew) MB.out]; rfl, by rw [Lib.cell_of_heap (w := w0.drew) M0.out]; rfl⟩)
  have HS1 := hid (show (w0.drew.setCell ⟨bc, 5, none⟩ (.string tx)).cell? ⟨b, 0, none⟩ = some (.func (.func 60) #[] #[]) ∧ (w0.drew.setCell ⟨bc, 5, none⟩ (.string tx)).cell? ⟨sb, 1, none⟩ = some (.string tx) from ⟨by rw [Lib.cell_of_heap ((Below.heap_setCell w0.drew ⟨bc, 5, none⟩ (.string tx) b hne).trans MB.out)]; rfl, by rw [Lib.cell_of_heap ((Below.heap_setCell w0.drew ⟨bc, 5, none⟩ (.string tx) sb hsb).trans M0.out)]; rfl⟩)
  clear hb hc
  go_enter Tryz.func105, Tryz.ntmps105
  go_wp2_with fail
  go_region_held3 (fun w' => w'.cell? ⟨b, 0, none⟩ = some (.func (.func 60) #[] #[]) ∧ w'.cell? ⟨sb, 1, none⟩ = some (.string tx)) (first | exact HS0.out | exact HS1.out)
    (first
      | (go_at_call 60; refine (CF.out _).mono ?_; rintro e w1 ⟨rfl, hw1⟩; subst hw1))
  have z1 : (w0.setCell ⟨bc, 5, none⟩ (.string tx)).drew.cell? ⟨sb, 1, none⟩ = some (.string tx) := HS1.out.2
  clear p0 p1 p2 p3 p4 p5 p6 p7 pf0 pf1 pf2 pf3 pf4 pf5 pf6 pf7 hw0 HS0 HS1 CF
  go_wp2_with fail
  go_ret
  exact ⟨by first | rfl | simp [empty_is tx], HM.out, HK.out.drew⟩

set_option maxRecDepth 8000 in
set_option maxHeartbeats 4000000 in
theorem cHeard4 (b bc : Nat) (T : TypeId) (c : Cm) (v : Value) (a1 : Option Addr) (n1 c1 : Nat) (tx : ByteArray) (w : World) (hb : w.heap[b]? = some (.cells #[.func (.func 61) #[] #[]] T (0, 0))) (hc : ClH w bc c v) (hne : ¬ b = bc) :
    Calls Tryz.prog 105 #[.pointer (some ⟨bc, 0, none⟩), .agg #[.slice a1 n1 c1, .string tx], .pointer (some ⟨b, 0, none⟩)] w fun e w' => e = .returned (.bool (!decide (tx.size = 0))) ∧ ClH w' bc { c with ans := tx } v ∧ KeepB (fun k => k = bc) w w' := by
  have CF := hid (fun wx => cField4 bc wx)
  have HB0 := hid ((Below.refl w.heap.size w).alloc (Nat.le_refl _) (.cells #[.slice a1 n1 c1, .string tx] 89))
  have M0 := hid (heap_alloc_new w (.cells #[.slice a1 n1 c1, .string tx] 89))
  have MB := hid (blk_alloc hb (.cells #[.slice a1 n1 c1, .string tx] 89))
  have MC := hid (show ClH (w.alloc (.cells #[.slice a1 n1 c1, .string tx] 89)) bc c v from blk_alloc hc _)
  obtain ⟨w0, hw0⟩ : ∃ w0, w.alloc (.cells #[.slice a1 n1 c1, .string tx] 89) = w0 := ⟨_, rfl⟩
  rw [hw0] at HB0 M0 MB MC
  have hsb : ¬ w.heap.size = bc := fun e => by have := lt_of_heap hc; omega
  obtain ⟨sb, hs⟩ : ∃ g, w.heap.size = g := ⟨_, rfl⟩
  rw [hs] at M0 hsb
  obtain ⟨⟨p0, p1, p2, p3, p4, p5, p6, p7⟩, pf0, pf1, pf2, pf3, pf4, pf5, pf6, pf7⟩ := box8 MC.out
  have HM := hid (show ClH (w0.setCell ⟨bc, 6, none⟩ (.string tx)) bc { c with ans := tx } v from heap_setCell_same w0 bc 6 _ _ (.string tx) MC.out)
  have HK := hid ((KeepB.of_below (fun k => k = bc) HB0.out).trans (KeepB.of_set (p := fun k => k = bc) w0 6 (.string tx) rfl))
  have HS0 := hid (show w0.drew.cell? ⟨b, 0, none⟩ = some (.func (.func 61) #[] #[]) ∧ w0.drew.cell? ⟨sb, 1, none⟩ = some (.string tx) from ⟨by rw [Lib.cell_of_heap (w := w0.drew) MB.out]; rfl, by rw [Lib.cell_of_heap (w := w0.drew) M0.out]; rfl⟩)
  have HS1 := hid (show (w0.drew.setCell ⟨bc, 6, none⟩ (.string tx)).cell? ⟨b, 0, none⟩ = some (.func (.func 61) #[] #[]) ∧ (w0.drew.setCell ⟨bc, 6, none⟩ (.string tx)).cell? ⟨sb, 1, none⟩ = some (.string tx) from ⟨by rw [Lib.cell_of_heap ((Below.heap_setCell w0.drew ⟨bc, 6, none⟩ (.string tx) b hne).trans MB.out)]; rfl, by rw [Lib.cell_of_heap ((Below.heap_setCell w0.drew ⟨bc, 6, none⟩ (.string tx) sb hsb).trans M0.out)]; rfl⟩)
  clear hb hc
  go_enter Tryz.func105, Tryz.ntmps105
  go_wp2_with fail
  go_region_held3 (fun w' => w'.cell? ⟨b, 0, none⟩ = some (.func (.func 61) #[] #[]) ∧ w'.cell? ⟨sb, 1, none⟩ = some (.string tx)) (first | exact HS0.out | exact HS1.out)
    (first
      | (go_at_call 61; refine (CF.out _).mono ?_; rintro e w1 ⟨rfl, hw1⟩; subst hw1))
  have z1 : (w0.setCell ⟨bc, 6, none⟩ (.string tx)).drew.cell? ⟨sb, 1, none⟩ = some (.string tx) := HS1.out.2
  clear p0 p1 p2 p3 p4 p5 p6 p7 pf0 pf1 pf2 pf3 pf4 pf5 pf6 pf7 hw0 HS0 HS1 CF
  go_wp2_with fail
  go_ret
  exact ⟨by first | rfl | simp [empty_is tx], HM.out, HK.out.drew⟩

set_option maxHeartbeats 4000000 in
theorem cTimeIn (a : Option Addr) (cap : Nat) (l : List At) (name : ByteArray) (w : World) (hR : AtRow w a l) (hz : AtSz 1048576 l) (hn : l.length ≤ 1048576) (hm : name.size ≤ 1048576) (hL : Laid w) :
    Calls Tryz.prog 107 #[.slice a l.length cap, .string name] w fun e w' => e = .returned (.tuple #[.int .i64 (timeOf ((valF l name).getD ByteArray.empty).data.toList).1, .bool (timeOf ((valF l name).getD ByteArray.empty).data.toList).2]) ∧ Below w.heap.size w w' := by
  have CV := hid (cValueInI a cap l name w hR hz hn hm)
  have CO := hid (fun wx (h : Below w.heap.size w wx) => cOfI ((valF l name).getD ByteArray.empty) wx (hL.below h))
  clear hR hz hL
  generalize (valF l name).getD ByteArray.empty = U at *
  generalize (valF l name).isSome = s at *
  generalize timeOf U.data.toList = tu at *
  generalize l.length = n at *
  obtain ⟨x7, b7⟩ := tu
  simp only at CO ⊢
  go_enter Tryz.func107, Tryz.ntmps107
  go_wp2_with fail
  refine CV.out.mono ?_
  rintro e w1 ⟨rfl, hb1⟩
  have HB1 := hid hb1
  clear hb1
  go_wp2_with fail
  refine (CO.out _ HB1.out).mono ?_
  rintro e w2 ⟨rfl, hb2⟩
  have HB2 := hid (bb HB1.out hb2)
  clear hb2
  go_wp2_with fail
  go_ret2
  exact ⟨rfl, HB2.out⟩

end Go.Proofs.YtknpgdglabibiaaGreatDoor

namespace Go.Proofs.YtknpgdglabibiaaGreatDoor
open Go.RowKit
set_option linter.unusedVariables false
set_option linter.unusedSimpArgs false

set_option maxRecDepth 8000 in
set_option maxHeartbeats 4000000 in
theorem cTermHeard (bc : Nat) (c : Cm) (v : Value) (a : Option Addr) (cap : Nat) (l : List At) (tx : ByteArray) (w : World) (hc : ClH w bc c v) (hR : AtRow w a l) (hz : AtSz 1048576 l) (hn : l.length ≤ 1048576) (hL : Laid w) :
    Calls Tryz.prog 59 #[.pointer (some ⟨bc, 0, none⟩), .agg #[.slice a l.length cap, .string tx]] w fun e w' => e = .returned (.bool ((timeOf ((valF l fromS).getD ByteArray.empty).data.toList).2 && (timeOf ((valF l toS).getD ByteArray.empty).data.toList).2)) ∧ ClH w' bc { c with frm := (timeOf ((valF l fromS).getD ByteArray.empty).data.toList).1, til := (timeOf ((valF l toS).getD ByteArray.empty).data.toList).1 } v ∧ KeepB (fun k => k = bc) w w' := by
  have HB0 := hid ((Below.refl w.heap.size w).alloc (Nat.le_refl _) (.cells #[.slice a l.length cap, .string tx] 89))
  have M0 := hid (heap_alloc_new w (.cells #[.slice a l.length cap, .string tx] 89))
  have C1 := hid (fun wx (h : Below w.heap.size w wx) => cTimeIn a cap l fromS wx (hR.below h) hz hn (by decide) (hL.below h))
  have C2 := hid (fun wx (h : Below w.heap.size w wx) => cTimeIn a cap l toS wx (hR.below h) hz hn (by decide) (hL.below h))
  have HC := hid hc
  have HL := hid (lt_of_heap hc)
  obtain ⟨w0, hw0⟩ : ∃ w0, w.alloc (.cells #[.slice a l.length cap, .string tx] 89) = w0 := ⟨_, rfl⟩
  rw [hw0] at HB0 M0
  obtain ⟨sb, hs⟩ : ∃ g, w.heap.size = g := ⟨_, rfl⟩
  have z0 : w0.cell? ⟨sb, 0, none⟩ = some (.slice a l.length cap) := by rw [hs] at M0; rw [Lib.cell_of_heap M0.out]; rfl
  clear hc hR hz hL hn
  generalize (timeOf ((valF l fromS).getD ByteArray.empty).data.toList) = t1 at *
  generalize (timeOf ((valF l toS).getD ByteArray.empty).data.toList) = t2 at *
  obtain ⟨f7, g7⟩ := t1
  obtain ⟨f8, g8⟩ := t2
  go_enter Tryz.func59, Tryz.ntmps59
  go_wp2_with fail
  refine (C1.out _ HB0.out).mono ?_
  rintro e w1 ⟨rfl, hb1⟩
  have HB1 := hid (HB0.out.trans (hb1.mono HB0.out.size))
  have z1 : w1.cell? ⟨sb, 0, none⟩ = some (.slice a l.length cap) := by
    rw [hs] at M0; rw [Lib.cell_of_heap ((hb1.block sb (lt_of_heap M0.out)).trans M0.out)]; rfl
  clear hb1 z0
  go_wp2_with fail
  refine (C2.out _ HB1.out).mono ?_
  rintro e w2 ⟨rfl, hb2⟩
  have HB2 := hid (HB1.out.trans (hb2.mono HB1.out.size))
  clear hb2 z1
  have MC := hid (show ClH w2 bc c v from (HB2.out.block bc HL.out).trans HC.out)
  have MD := hid (show ClH (w2.setCell ⟨bc, 3, none⟩ (.int .i64 f7)) bc { c with frm := f7 } v from heap_setCell_same w2 bc 3 _ _ (.int .i64 f7) MC.out)
  have ME := hid (show ClH ((w2.setCell ⟨bc, 3, none⟩ (.int .i64 f7)).setCell ⟨bc, 4, none⟩ (.int .i64 f8)) bc { c with frm := f7, til := f8 } v from heap_setCell_same _ bc 4 _ _ (.int .i64 f8) MD.out)
  have HK := hid (((KeepB.of_below (fun k => k = bc) HB2.out).trans (KeepB.of_set (p := fun k => k = bc) w2 3 (.int .i64 f7) rfl)).trans (KeepB.of_set (p := fun k => k = bc) _ 4 (.int .i64 f8) rfl))
  obtain ⟨⟨p0, p1, p2, p3, p4, p5, p6, p7⟩, pf0, pf1, pf2, pf3, pf4, pf5, pf6, pf7⟩ := box8 MC.out
  obtain ⟨⟨q0, q1, q2, q3, q4, q5, q6, q7⟩, qf0, qf1, qf2, qf3, qf4, qf5, qf6, qf7⟩ := box8 MD.out
  go_wp2_with fail
  all_goals (go_ret; exact ⟨by cases g7 <;> cases g8 <;> first | rfl | contradiction | simp_all, ME.out, HK.out⟩)

end Go.Proofs.YtknpgdglabibiaaGreatDoor

namespace Go.Proofs.YtknpgdglabibiaaGreatDoor
open Go.RowKit
set_option linter.unusedVariables false
set_option linter.unusedSimpArgs false

/-- A kid that is known so. -/
noncomputable def kidB (ts : List Tk) (loc : ByteArray) (j : Nat) : Bool := !decide ((nameI ts j).size = 0) && knownN ts j loc claimS

/-- The kids that are known so, in their order. -/
noncomputable def kidsK (ts : List Tk) (k : Nat) (loc : ByteArray) : List Nat := (kidsN ts k).filter (kidB ts loc)

noncomputable def kidsP (ts : List Tk) (l : List Nat) (loc : ByteArray) (q : Nat) : List Nat := (l.take q).filter (kidB ts loc)

theorem kidsP_next {ts : List Tk} {l : List Nat} {loc : ByteArray} {q : Nat} (h : q < l.length) : kidsP ts l loc (q + 1) = kidsP ts l loc q ++ (if kidB ts loc l[q] = true then [l[q]] else []) := by
  unfold kidsP
  rw [take_snocN h, List.filter_append]
  congr 1
  by_cases q : kidB ts loc l[q] = true
  · rw [if_pos q, List.filter_cons_of_pos q]
    rfl
  · rw [if_neg q, List.filter_cons_of_neg q]
    rfl

theorem kidsP_len (ts : List Tk) (l : List Nat) (loc : ByteArray) (q : Nat) : (kidsP ts l loc q).length ≤ q := by
  unfold kidsP
  have h1 := List.length_filter_le (kidB ts loc) (l.take q)
  have h2 := List.length_take_le q l
  omega

theorem kidsK_len (ts : List Tk) (k : Nat) (loc : ByteArray) : (kidsK ts k loc).length ≤ ts.length := by
  unfold kidsK kidsN kidsTo
  exact Nat.le_trans (List.length_filter_le _ _) (Nat.le_trans (List.length_filter_le _ _) (by rw [List.length_range]; exact Nat.le_refl _))

theorem kidsK_lt {ts : List Tk} {k : Nat} {loc : ByteArray} {j : Nat} (h : j ∈ kidsK ts k loc) : j < ts.length := kidsN_lt (List.mem_filter.1 h).1

/-- The text of a node, and its attrs. -/
noncomputable def txN (ts : List Tk) (j : Nat) : ByteArray := joinT ts (kidsN ts j)

def atN (ts : List Tk) (j : Nat) : List At := match ts[j]? with | some t => t.attrs | none => []

/-- The text of the first of these, or none. -/
noncomputable def fstT (ts : List Tk) (l : List Nat) : ByteArray := match l with | [] => nE | j :: _ => txN ts j

def valN (ts : List Tk) (j : Nat) (name : ByteArray) : ByteArray := (valF (atN ts j) name).getD ⟨#[]⟩

noncomputable def timN (ts : List Tk) (l : List Nat) (name : ByteArray) : Int × Bool := match l with | [] => (0, false) | j :: _ => timeOf (valN ts j name).data.toList

/-- The facts of these. -/
noncomputable def facN (ts : List Tk) (l : List Nat) : List At := l.map fun j => ⟨valN ts j nameS, txN ts j⟩

def hasNm (ts : List Tk) (j : Nat) : Bool := (valF (atN ts j) nameS).isSome

/-- The claim that is said, right or not. -/
noncomputable def qdC (ts : List Tk) (k : Nat) : Cm :=
  ⟨(valF (atN ts k) idS).getD ⟨#[]⟩, fstT ts (kidsK ts k (localN 0)), fstT ts (kidsK ts k (localN 1)), (timN ts (kidsK ts k (localN 2)) fromS).1, (timN ts (kidsK ts k (localN 2)) toS).1, fstT ts (kidsK ts k (localN 3)), fstT ts (kidsK ts k (localN 4)), facN ts (kidsK ts k (localN 5))⟩

/-- It is said whole. -/
def DecP (ts : List Tk) (k : Nat) : Prop :=
  (kidsK ts k (localN 0)).length = 1 ∧ (kidsK ts k (localN 1)).length = 1 ∧ (kidsK ts k (localN 2)).length = 1 ∧ (kidsK ts k (localN 3)).length = 1 ∧ (kidsK ts k (localN 4)).length ≤ 1 ∧ ((kidsK ts k (localN 4)).length = 1 → ¬ (fstT ts (kidsK ts k (localN 4))).size = 0) ∧
  (timN ts (kidsK ts k (localN 2)) fromS).2 = true ∧ (timN ts (kidsK ts k (localN 2)) toS).2 = true ∧ (∀ j ∈ kidsK ts k (localN 5), hasNm ts j = true) ∧ claimB (qdC ts k) = true

def zeroC : Cm := ⟨⟨#[]⟩, ⟨#[]⟩, ⟨#[]⟩, 0, 0, ⟨#[]⟩, ⟨#[]⟩, []⟩

noncomputable def qdB (ts : List Tk) (k : Nat) : Bool := open Classical in (!decide ((nameI ts k).size = 0) && knownN ts k (⟨#[67, 108, 97, 105, 109]⟩ : ByteArray) claimS && (valF (atN ts k) idS).isSome) && decide (DecP ts k)

noncomputable def qdA (ts : List Tk) (k : Nat) : Cm := if qdB ts k = true then qdC ts k else zeroC

noncomputable def qdI (ts : List Tk) (x : Int) : Bool := namesB ts && idsB ts && decide (0 ≤ x ∧ x < ts.length) && qdB ts x.toNat

noncomputable def qdV (ts : List Tk) (x : Int) : Cm := if qdI ts x = true then qdC ts x.toNat else zeroC

theorem qdB_no {ts : List Tk} {k : Nat} (h : ¬ DecP ts k) : qdB ts k = false := by
  unfold qdB
  simp [h]

theorem qdB_yes {ts : List Tk} {k : Nat} (h1 : (!decide ((nameI ts k).size = 0) && knownN ts k (⟨#[67, 108, 97, 105, 109]⟩ : ByteArray) claimS && (valF (atN ts k) idS).isSome) = true) (h : DecP ts k) : qdB ts k = true := by
  unfold qdB
  rw [h1]
  simp [h]

theorem qdB_head {ts : List Tk} {k : Nat} (h1 : (!decide ((nameI ts k).size = 0) && knownN ts k (⟨#[67, 108, 97, 105, 109]⟩ : ByteArray) claimS && (valF (atN ts k) idS).isSome) = false) : qdB ts k = false := by
  unfold qdB
  rw [h1]
  rfl

end Go.Proofs.YtknpgdglabibiaaGreatDoor
