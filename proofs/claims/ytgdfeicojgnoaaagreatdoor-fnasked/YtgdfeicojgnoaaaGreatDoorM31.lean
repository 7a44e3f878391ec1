/- The draw of a gate, an identifier and a time: DrawAsks. -/
import Derived.Test.YtgdfeicojgnoaaaGreatDoorM30
namespace Go.Proofs.YtgdfeicojgnoaaaGreatDoor
open Go.RowKit
set_option linter.unusedVariables false
set_option linter.unusedSimpArgs false

def akT (y : Nat) : Int := if y = 0 then 0 else if y = 1 then 1500 else if y = 2 then 3155759999 else 3155760000

theorem akT_cell {W : World} {h y : Nat} (hh : W.heap[h]? = some (.cells #[.int .i64 0, .int .i64 1500, .int .i64 3155759999, .int .i64 3155760000] 2 (0, 0))) (hy : y < 4) : W.cell? ⟨h, y, none⟩ = some (.int .i64 (akT y)) := by
  have hy3 : y = 0 ∨ y = 1 ∨ y = 2 ∨ y = 3 := by omega
  rw [Lib.cell_of_heap hh]
  rcases hy3 with rfl | rfl | rfl | rfl <;> rfl

theorem akT_get {y : Nat} (hy : y < 4) : ∀ h, ([.int .i64 0, .int .i64 1500, .int .i64 3155759999, .int .i64 3155760000] : List Value)[y]'h = .int .i64 (akT y) := by
  have hy3 : y = 0 ∨ y = 1 ∨ y = 2 ∨ y = 3 := by omega
  rcases hy3 with rfl | rfl | rfl | rfl <;> exact fun _ => rfl

set_option maxRecDepth 8000 in
set_option maxHeartbeats 32000000 in
theorem cDrawAsks (a : Option Addr) (len cap : Nat) (w : World) (hlen : len ≤ 4096) (hcr : CodeRow w a len) :
    Calls Tryz.prog 8 #[.slice a len cap] w fun e w' => ∃ g ah ch aa ca ar cr id z, e = .returned (.tuple #[gtV g ah ch aa ca ar cr, .string id, .int .i64 z]) ∧ GtRow w' g ah aa ar ∧ GtS 4 6 2 g ∧ id.size ≤ 10 ∧ Below w.heap.size w w' := by
  have HB0 := hid ((Below.refl w.heap.size w).alloc (Nat.le_refl _) (.cells #[.string ⟨#[]⟩, .slice none 0 0, .int .i64 0, .int .i64 0, .int .i64 0, .slice none 0 0, .int .i64 0, .slice none 0 0] 29))
  have HCR := hid (code_below hcr HB0.out)
  have HR0 := hid (heap_alloc_new w (.cells #[.string ⟨#[]⟩, .slice none 0 0, .int .i64 0, .int .i64 0, .int .i64 0, .slice none 0 0, .int .i64 0, .slice none 0 0] 29))
  clear hcr
  go_enter Tryz.func8, Tryz.ntmps8
  go_wp2_with fail
  obtain ⟨W, hW⟩ : ∃ W, w.alloc (.cells #[.string ⟨#[]⟩, .slice none 0 0, .int .i64 0, .int .i64 0, .int .i64 0, .slice none 0 0, .int .i64 0, .slice none 0 0] 29) = W := ⟨_, rfl⟩
  rw [hW] at HB0 HR0 HCR ⊢
  clear hW
  obtain ⟨R, hR⟩ : ∃ R, w.heap.size = R := ⟨_, rfl⟩
  have HRw := hid (show w.heap.size ≤ R by omega)
  have HRlt := hid (show R < W.heap.size by rw [← hR]; exact lt_of_heap HR0.out)
  rw [hR] at HR0 ⊢
  refine (cNew a len cap _ hlen HCR.out).mono ?_
  rintro e w1 ⟨rfl, hC1⟩
  have HC1 := hid hC1
  clear hC1
  obtain ⟨b, hb⟩ : ∃ b, W.heap.size = b := ⟨_, rfl⟩
  simp only [hb] at HC1 ⊢
  go_wp2_with fail
  refine (cDrawAnyD W a len cap b _ hlen HCR.out HC1.out).mono ?_
  rintro e w2 ⟨g, ah, ch, aa, ca, ar, cr, rfl, ho2, hs2, hC2, _⟩
  have HE := hid hs2
  have HA := hid ((Below.refl w2.heap.size w2).alloc (Nat.le_refl _) (.cells #[.string g.name, .slice ah g.hands.length ch, .int .i64 g.skew, .int .i64 g.now, .int .i64 g.ask.most, .slice aa g.ask.rows.length ca, .int .i64 g.hrd.most, .slice ar g.hrd.rows.length cr] 29))
  have HS2 := hid (show GrSt W a len cap b W (w2.alloc (.cells #[.string g.name, .slice ah g.hands.length ch, .int .i64 g.skew, .int .i64 g.now, .int .i64 g.ask.most, .slice aa g.ask.rows.length ca, .int .i64 g.hrd.most, .slice ar g.hrd.rows.length cr] 29)) w2.heap.size R g ah ch aa ca ar cr from ⟨heap_alloc_new _ _, (ho2.base HC1.out.size).below HA.out, hC2.below HA.out, gr_of_below (hC2.below HA.out).2.1 _, u_blk_below HR0.out (hC2.below HA.out).2.1⟩)
  have HW2 := hid hC2.2.1.size
  clear ho2 hs2 hC2 HC1 HA
  unfold gtV
  obtain ⟨nm, hnm⟩ : ∃ x, g.name = x := ⟨_, rfl⟩
  obtain ⟨nh, hnh⟩ : ∃ x, g.hands.length = x := ⟨_, rfl⟩
  obtain ⟨sk, hsk⟩ : ∃ x, g.skew = x := ⟨_, rfl⟩
  obtain ⟨nw, hnw⟩ : ∃ x, g.now = x := ⟨_, rfl⟩
  obtain ⟨am, ham⟩ : ∃ x, g.ask.most = x := ⟨_, rfl⟩
  obtain ⟨na, hna⟩ : ∃ x, g.ask.rows.length = x := ⟨_, rfl⟩
  obtain ⟨rm, hrm⟩ : ∃ x, g.hrd.most = x := ⟨_, rfl⟩
  obtain ⟨nr, hnr⟩ : ∃ x, g.hrd.rows.length = x := ⟨_, rfl⟩
  have HGV := hid (show gtV g ah ch aa ca ar cr = .agg #[.string nm, .slice ah nh ch, .int .i64 sk, .int .i64 nw, .int .i64 am, .slice aa na ca, .int .i64 rm, .slice ar nr cr] by unfold gtV; rw [hnm, hnh, hsk, hnw, ham, hna, hrm, hnr])
  have HPF := hid (show ∀ (wr : World) (P : Nat), GrSt W a len cap b W wr P R g ah ch aa ca ar cr → wr.heap[P]? = some (.cells #[.string nm, .slice ah nh ch, .int .i64 sk, .int .i64 nw, .int .i64 am, .slice aa na ca, .int .i64 rm, .slice ar nr cr] 29 (0, 0)) from fun wr P h => by rw [← hnm, ← hnh, ← hsk, ← hnw, ← ham, ← hna, ← hrm, ← hnr]; exact h.p)
  simp only [hnm, hnh, hsk, hnw, ham, hna, hrm, hnr] at HS2 ⊢
  clear hnm hnh hsk hnw ham hna hrm hnr
  go_wp2_with fail
  obtain ⟨w3, hW2⟩ : ∃ W, w2.alloc (.cells #[.string nm, .slice ah nh ch, .int .i64 sk, .int .i64 nw, .int .i64 am, .slice aa na ca, .int .i64 rm, .slice ar nr cr] 29) = W := ⟨_, rfl⟩
  rw [hW2] at HS2
  try simp only [hW2]
  clear hW2
  have HPge := hid (show W.heap.size ≤ w2.heap.size from HW2.out)
  obtain ⟨P, hP⟩ : ∃ P, w2.heap.size = P := ⟨_, rfl⟩
  rw [hP] at HS2 HPge
  try simp only [hP]
  clear hP
  refine (cText ⟨#[49, 50]⟩ 2 W a len cap b _ (by decide) (by decide) (by decide) (by decide) hlen HCR.out HS2.out.c).mono ?_
  rintro e w5 ⟨t, rfl, ht, hC5, hg5⟩
  have HS5 := hid (HS2.out.draw hC5 hg5)
  have HID := hid (show ((⟨#[114]⟩ : ByteArray) ++ t).size ≤ 10 by rw [ByteArray.size_append]; show 1 + t.size ≤ 10; omega)
  have hsz : ¬ 9223372036854775807 < (⟨#[114]⟩ : ByteArray).size + t.size := by show ¬ 9223372036854775807 < 1 + t.size; omega
  obtain ⟨id0, hid'⟩ : ∃ id, (⟨#[114]⟩ : ByteArray) ++ t = id := ⟨_, rfl⟩
  rw [hid'] at HID
  clear hC5 hg5 HS2 ht
  go_wp2_with fail
  clear hid' hsz
  refine (cOnce 12 W a len cap b _ hlen HCR.out HS5.out.c (by decide) (by decide)).mono ?_
  rintro e w4 ⟨yy, rfl, hC6, hg6⟩
  have HS4 := hid (HS5.out.draw hC6 hg6)
  clear hC6 hg6 HS5
  cases yy
  case' false =>
    go_wp2_with fail
    generalize id0 = id at *
  case' true =>
    clear HID
    go_wp2_with fail
    have HID := hid (show (⟨#[82]⟩ : ByteArray).size ≤ 10 by decide)
    generalize (⟨#[82]⟩ : ByteArray) = id at *
  all_goals
    have HSd := hid (HS4.out.below ((Below.refl w4.heap.size w4).drew))
    have HSa := hid (HSd.out.below ((Below.refl w4.drew.heap.size w4.drew).alloc (Nat.le_refl _) (.cells #[.int .i64 0, .int .i64 1500, .int .i64 3155759999, .int .i64 3155760000] 2)))
    have HSe := hid (HS4.out.below (((Below.refl w4.heap.size w4).alloc (Nat.le_refl _) (.cells #[.int .i64 0, .int .i64 1500, .int .i64 3155759999, .int .i64 3155760000] 2)).drew))
    have HSb := hid (HS4.out.below ((Below.refl w4.heap.size w4).alloc (Nat.le_refl _) (.cells #[.int .i64 0, .int .i64 1500, .int .i64 3155759999, .int .i64 3155760000] 2)))
    have HIa := hid (heap_alloc_new w4.drew (.cells #[.int .i64 0, .int .i64 1500, .int .i64 3155759999, .int .i64 3155760000] 2))
    have HIe := hid (show ((w4.alloc (.cells #[.int .i64 0, .int .i64 1500, .int .i64 3155759999, .int .i64 3155760000] 2)).drew).heap[w4.heap.size]? = some (.cells #[.int .i64 0, .int .i64 1500, .int .i64 3155759999, .int .i64 3155760000] 2 (0, 0)) from heap_alloc_new w4 (.cells #[.int .i64 0, .int .i64 1500, .int .i64 3155759999, .int .i64 3155760000] 2))
    have HbI := hid (show ¬ b = w4.heap.size from fun e => by have := HS4.out.c.lt; omega)
    have HRPn := hid (show ¬ P = R from fun e => by have h1 := HRlt.out; have h2 := HPge.out; omega)
    have HSY := hid (show ∀ (w' : World), GrSt W a len cap b W w' P R g ah ch aa ca ar cr → w'.cell? ⟨P, 0, none⟩ = some (.string nm) ∧ w'.cell? ⟨P, 1, none⟩ = some (.slice ah nh ch) ∧ w'.cell? ⟨P, 2, none⟩ = some (.int .i64 sk) ∧ w'.cell? ⟨P, 3, none⟩ = some (.int .i64 nw) ∧ w'.cell? ⟨P, 4, none⟩ = some (.int .i64 am) ∧ w'.cell? ⟨P, 5, none⟩ = some (.slice aa na ca) ∧ w'.cell? ⟨P, 6, none⟩ = some (.int .i64 rm) ∧ w'.cell? ⟨P, 7, none⟩ = some (.slice ar nr cr) from fun _ h => (g_box8f (HPF.out _ _ h)).1)
    have HSR := hid (show ∀ (wr : World), GrSt W a len cap b W wr P R g ah ch aa ca ar cr → ∀ v0 v1 v2 v3 v4 v5 v6 v7, (((((((((wr.setCell ⟨R, 0, none⟩ v0).setCell ⟨R, 1, none⟩ v1).setCell ⟨R, 2, none⟩ v2).setCell ⟨R, 3, none⟩ v3).setCell ⟨R, 4, none⟩ v4).setCell ⟨R, 5, none⟩ v5).setCell ⟨R, 6, none⟩ v6).setCell ⟨R, 7, none⟩ v7)).cell? ⟨P, 0, none⟩ = some (.string nm) ∧ (((((((((wr.setCell ⟨R, 0, none⟩ v0).setCell ⟨R, 1, none⟩ v1).setCell ⟨R, 2, none⟩ v2).setCell ⟨R, 3, none⟩ v3).setCell ⟨R, 4, none⟩ v4).setCell ⟨R, 5, none⟩ v5).setCell ⟨R, 6, none⟩ v6).setCell ⟨R, 7, none⟩ v7)).cell? ⟨P, 1, none⟩ = some (.slice ah nh ch) ∧ (((((((((wr.setCell ⟨R, 0, none⟩ v0).setCell ⟨R, 1, none⟩ v1).setCell ⟨R, 2, none⟩ v2).setCell ⟨R, 3, none⟩ v3).setCell ⟨R, 4, none⟩ v4).setCell ⟨R, 5, none⟩ v5).setCell ⟨R, 6, none⟩ v6).setCell ⟨R, 7, none⟩ v7)).cell? ⟨P, 2, none⟩ = some (.int .i64 sk) ∧ (((((((((wr.setCell ⟨R, 0, none⟩ v0).setCell ⟨R, 1, none⟩ v1).setCell ⟨R, 2, none⟩ v2).setCell ⟨R, 3, none⟩ v3).setCell ⟨R, 4, none⟩ v4).setCell ⟨R, 5, none⟩ v5).setCell ⟨R, 6, none⟩ v6).setCell ⟨R, 7, none⟩ v7)).cell? ⟨P, 3, none⟩ = some (.int .i64 nw) ∧ (((((((((wr.setCell ⟨R, 0, none⟩ v0).setCell ⟨R, 1, none⟩ v1).setCell ⟨R, 2, none⟩ v2).setCell ⟨R, 3, none⟩ v3).setCell ⟨R, 4, none⟩ v4).setCell ⟨R, 5, none⟩ v5).setCell ⟨R, 6, none⟩ v6).setCell ⟨R, 7, none⟩ v7)).cell? ⟨P, 4, none⟩ = some (.int .i64 am) ∧ (((((((((wr.setCell ⟨R, 0, none⟩ v0).setCell ⟨R, 1, none⟩ v1).setCell ⟨R, 2, none⟩ v2).setCell ⟨R, 3, none⟩ v3).setCell ⟨R, 4, none⟩ v4).setCell ⟨R, 5, none⟩ v5).setCell ⟨R, 6, none⟩ v6).setCell ⟨R, 7, none⟩ v7)).cell? ⟨P, 5, none⟩ = some (.slice aa na ca) ∧ (((((((((wr.setCell ⟨R, 0, none⟩ v0).setCell ⟨R, 1, none⟩ v1).setCell ⟨R, 2, none⟩ v2).setCell ⟨R, 3, none⟩ v3).setCell ⟨R, 4, none⟩ v4).setCell ⟨R, 5, none⟩ v5).setCell ⟨R, 6, none⟩ v6).setCell ⟨R, 7, none⟩ v7)).cell? ⟨P, 6, none⟩ = some (.int .i64 rm) ∧ (((((((((wr.setCell ⟨R, 0, none⟩ v0).setCell ⟨R, 1, none⟩ v1).setCell ⟨R, 2, none⟩ v2).setCell ⟨R, 3, none⟩ v3).setCell ⟨R, 4, none⟩ v4).setCell ⟨R, 5, none⟩ v5).setCell ⟨R, 6, none⟩ v6).setCell ⟨R, 7, none⟩ v7)).cell? ⟨P, 7, none⟩ = some (.slice ar nr cr) from fun wr h v0 v1 v2 v3 v4 v5 v6 v7 => (g_box8f ((keep8R wr R v0 v1 v2 v3 v4 v5 v6 v7 |>.block P (lt_of_heap h.p) HRPn.out).trans (HPF.out _ _ h))).1)
    have HSR2 := hid (show ∀ (wr : World), GrSt W a len cap b W wr P R g ah ch aa ca ar cr → ∀ v0 v1 v2 v3 v4 v5 v6 v7 o, ((((((((((wr.setCell ⟨R, 0, none⟩ v0).setCell ⟨R, 1, none⟩ v1).setCell ⟨R, 2, none⟩ v2).setCell ⟨R, 3, none⟩ v3).setCell ⟨R, 4, none⟩ v4).setCell ⟨R, 5, none⟩ v5).setCell ⟨R, 6, none⟩ v6).setCell ⟨R, 7, none⟩ v7)).alloc o).cell? ⟨P, 0, none⟩ = some (.string nm) ∧ ((((((((((wr.setCell ⟨R, 0, none⟩ v0).setCell ⟨R, 1, none⟩ v1).setCell ⟨R, 2, none⟩ v2).setCell ⟨R, 3, none⟩ v3).setCell ⟨R, 4, none⟩ v4).setCell ⟨R, 5, none⟩ v5).setCell ⟨R, 6, none⟩ v6).setCell ⟨R, 7, none⟩ v7)).alloc o).cell? ⟨P, 1, none⟩ = some (.slice ah nh ch) ∧ ((((((((((wr.setCell ⟨R, 0, none⟩ v0).setCell ⟨R, 1, none⟩ v1).setCell ⟨R, 2, none⟩ v2).setCell ⟨R, 3, none⟩ v3).setCell ⟨R, 4, none⟩ v4).setCell ⟨R, 5, none⟩ v5).setCell ⟨R, 6, none⟩ v6).setCell ⟨R, 7, none⟩ v7)).alloc o).cell? ⟨P, 2, none⟩ = some (.int .i64 sk) ∧ ((((((((((wr.setCell ⟨R, 0, none⟩ v0).setCell ⟨R, 1, none⟩ v1).setCell ⟨R, 2, none⟩ v2).setCell ⟨R, 3, none⟩ v3).setCell ⟨R, 4, none⟩ v4).setCell ⟨R, 5, none⟩ v5).setCell ⟨R, 6, none⟩ v6).setCell ⟨R, 7, none⟩ v7)).alloc o).cell? ⟨P, 3, none⟩ = some (.int .i64 nw) ∧ ((((((((((wr.setCell ⟨R, 0, none⟩ v0).setCell ⟨R, 1, none⟩ v1).setCell ⟨R, 2, none⟩ v2).setCell ⟨R, 3, none⟩ v3).setCell ⟨R, 4, none⟩ v4).setCell ⟨R, 5, none⟩ v5).setCell ⟨R, 6, none⟩ v6).setCell ⟨R, 7, none⟩ v7)).alloc o).cell? ⟨P, 4, none⟩ = some (.int .i64 am) ∧ ((((((((((wr.setCell ⟨R, 0, none⟩ v0).setCell ⟨R, 1, none⟩ v1).setCell ⟨R, 2, none⟩ v2).setCell ⟨R, 3, none⟩ v3).setCell ⟨R, 4, none⟩ v4).setCell ⟨R, 5, none⟩ v5).setCell ⟨R, 6, none⟩ v6).setCell ⟨R, 7, none⟩ v7)).alloc o).cell? ⟨P, 5, none⟩ = some (.slice aa na ca) ∧ ((((((((((wr.setCell ⟨R, 0, none⟩ v0).setCell ⟨R, 1, none⟩ v1).setCell ⟨R, 2, none⟩ v2).setCell ⟨R, 3, none⟩ v3).setCell ⟨R, 4, none⟩ v4).setCell ⟨R, 5, none⟩ v5).setCell ⟨R, 6, none⟩ v6).setCell ⟨R, 7, none⟩ v7)).alloc o).cell? ⟨P, 6, none⟩ = some (.int .i64 rm) ∧ ((((((((((wr.setCell ⟨R, 0, none⟩ v0).setCell ⟨R, 1, none⟩ v1).setCell ⟨R, 2, none⟩ v2).setCell ⟨R, 3, none⟩ v3).setCell ⟨R, 4, none⟩ v4).setCell ⟨R, 5, none⟩ v5).setCell ⟨R, 6, none⟩ v6).setCell ⟨R, 7, none⟩ v7)).alloc o).cell? ⟨P, 7, none⟩ = some (.slice ar nr cr) from fun wr h v0 v1 v2 v3 v4 v5 v6 v7 o => (g_box8f (u_blk_below ((keep8R wr R v0 v1 v2 v3 v4 v5 v6 v7 |>.block P (lt_of_heap h.p) HRPn.out).trans (HPF.out _ _ h)) ((Below.refl _ _).alloc (Nat.le_refl _) o))).1)
    have CB := hid (fun wx (hC : Cur W a len cap b wx) => show Calls Tryz.prog 25 #[.pointer (some ⟨b, 0, none⟩), .int .i64 4] wx fun e w' => ∃ x : Nat, e = .returned (.int .i64 x) ∧ x < 4 ∧ Cur W a len cap b w' ∧ wx.grownBy w' (some b) from cBelow 4 W a len cap b wx hlen HCR.out hC (by decide) (by decide))
    have CB := hid (fun wx (hC : Cur W a len cap b wx) => show Calls Tryz.prog 25 #[.pointer (some ⟨b, 0, none⟩), .int .i64 4] wx fun e w' => ∃ x : Nat, e = .returned (.int .i64 x) ∧ x < 4 ∧ Cur W a len cap b w' ∧ wx.grownBy w' (some b) from cBelow 4 W a len cap b wx hlen HCR.out hC (by decide) (by decide))
    have n1 : ¬ R = w4.heap.size := fun e => by have := lt_of_heap HS4.out.r; omega
    have n2 : ¬ w4.heap.size = R := fun e => n1 e.symm
    have HSc := hid HSd.out
    clear HS4
    go_wp2_with fail
    refine wp_region_noPanic ?_
    refine wp_region_held_drew (S := fun w' => w'.cell? ⟨P, 0, none⟩ = some (.string nm) ∧ w'.cell? ⟨P, 1, none⟩ = some (.slice ah nh ch) ∧ w'.cell? ⟨P, 2, none⟩ = some (.int .i64 sk) ∧ w'.cell? ⟨P, 3, none⟩ = some (.int .i64 nw) ∧ w'.cell? ⟨P, 4, none⟩ = some (.int .i64 am) ∧ w'.cell? ⟨P, 5, none⟩ = some (.slice aa na ca) ∧ w'.cell? ⟨P, 6, none⟩ = some (.int .i64 rm) ∧ w'.cell? ⟨P, 7, none⟩ = some (.slice ar nr cr)) (by kernel_rfl) ?_ (fun hHeld0 => ?_)
    · try dsimp only
      (first | with_reducible exact HSY.out _ HSc.out | with_reducible exact HSY.out _ HSa.out | with_reducible exact HSY.out _ HSe.out | with_reducible exact HSY.out _ HSb.out | with_reducible exact HSY.out _ HS8.out | with_reducible exact HSR.out _ HSc.out _ _ _ _ _ _ _ _ | with_reducible exact HSR.out _ HS8.out _ _ _ _ _ _ _ _ | with_reducible exact HSR2.out _ HSc.out _ _ _ _ _ _ _ _ _)
    refine wpAnyH_take (i := 0) (v := ?_) rfl (by kernel_rfl) (by kernel_rfl) (by kernel_rfl) (fun _ _ _ h => h) (Or.inl ⟨by rfl, ?_⟩) hHeld0 ?_
    rotate_left
    · intro w hSw
      try dsimp only at hSw
      go_simp
      try with_reducible rfl
    try simp only [Act.put, List.setIfInBounds_toArray, List.set_cons_zero, List.set_cons_succ, List.getElem_toArray, List.getElem_cons_zero, List.getElem_cons_succ]
    refine wpAnyH_take (i := 1) (v := ?_) rfl (by kernel_rfl) (by kernel_rfl) (by kernel_rfl) (fun _ _ _ h => h) (Or.inl ⟨by rfl, ?_⟩) hHeld0 ?_
    rotate_left
    · intro w hSw
      try dsimp only at hSw
      go_simp
      try with_reducible rfl
    try simp only [Act.put, List.setIfInBounds_toArray, List.set_cons_zero, List.set_cons_succ, List.getElem_toArray, List.getElem_cons_zero, List.getElem_cons_succ]
    refine wpAnyH_take (i := 3) (v := ?_) rfl (by kernel_rfl) (by kernel_rfl) (by kernel_rfl) (fun _ _ _ h => h) (Or.inl ⟨by rfl, ?_⟩) hHeld0 ?_
    rotate_left
    · intro w hSw
      try dsimp only at hSw
      go_simp
      try with_reducible rfl
    try simp only [Act.put, List.setIfInBounds_toArray, List.set_cons_zero, List.set_cons_succ, List.getElem_toArray, List.getElem_cons_zero, List.getElem_cons_succ]
    refine wpAnyH_ready (rs := [2, 4]) (by kernel_rfl) (by simp) (AllReadyH.cons rfl (fun K hK => ?_) (AllReadyH.cons rfl (fun K hK => ?_) AllReadyH.nil))
    · go_simp
      refine hK.out _ _ ?_ (fun hHeld1 => ?_)
      · try dsimp only
        (first | with_reducible exact HSY.out _ HSc.out | with_reducible exact HSY.out _ HSa.out | with_reducible exact HSY.out _ HSe.out | with_reducible exact HSY.out _ HSb.out | with_reducible exact HSY.out _ HS8.out | with_reducible exact HSR.out _ HSc.out _ _ _ _ _ _ _ _ | with_reducible exact HSR.out _ HS8.out _ _ _ _ _ _ _ _ | with_reducible exact HSR2.out _ HSc.out _ _ _ _ _ _ _ _ _)
      clear hK K hHeld0
      try simp only [Act.put, List.setIfInBounds_toArray, List.set_cons_zero, List.set_cons_succ, List.getElem_toArray, List.getElem_cons_zero, List.getElem_cons_succ]
      refine wpAnyH_ready (rs := [4]) (by kernel_rfl) (by simp) (AllReadyH.cons rfl (fun K hK => ?_) AllReadyH.nil)
      · go_simp
        (first
          | (go_at_call 25; with_reducible refine (CB.out _ (by first | with_reducible exact HSd.out.c | with_reducible exact HSa.out.c | with_reducible exact HSe.out.c)).mono ?_; rintro e w7 ⟨y, rfl, hy, hC7, hg7⟩
             (first
               | (have HSn := hid (HSd.out.draw hC7 hg7))
               | (have HSn := hid (HSa.out.draw hC7 hg7); have zc := (show w7.cell? ⟨w4.heap.size, y, none⟩ = some (.int .i64 (akT y)) from akT_cell (blk_draw HIa.out hg7 HbI.out) hy))
               | (have HSn := hid (HSe.out.draw hC7 hg7); have zc := (show w7.cell? ⟨w4.heap.size, y, none⟩ = some (.int .i64 (akT y)) from akT_cell (blk_draw HIe.out hg7 HbI.out) hy)))
             clear HSc; have HSc := HSn; clear HSn
             have HS8 := hid (HSc.out.below ((Below.refl w7.heap.size w7).alloc (Nat.le_refl _) (.cells #[.int .i64 0, .int .i64 1500, .int .i64 3155759999, .int .i64 3155760000] 2)))
             obtain ⟨⟨t0, t1, t2, t3, t4, t5, t6, t7⟩, tf⟩ := g_box8f HSc.out.r
             have tf0 := tf 0
             have tf1 := tf 1
             have tf2 := tf 2
             have tf3 := tf 3
             have tf4 := tf 4
             have tf5 := tf 5
             have tf6 := tf 6
             have tf7 := tf 7
             clear tf
             obtain ⟨⟨x0, x1, x2, x3, x4, x5, x6, x7⟩, xf⟩ := g_box8f HS8.out.r
             have xf0 := xf 0
             have xf1 := xf 1
             have xf2 := xf 2
             have xf3 := xf 3
             have xf4 := xf 4
             have xf5 := xf 5
             have xf6 := xf 6
             have xf7 := xf 7
             clear xf
             have zd := akT_cell (heap_alloc_new w7 (.cells #[.int .i64 0, .int .i64 1500, .int .i64 3155759999, .int .i64 3155760000] 2)) hy
             have n3 : ¬ R = w7.heap.size := fun e => by have := lt_of_heap HSc.out.r; omega
             have n4 : ¬ w7.heap.size = R := fun e => n3 e.symm
             have hy3 : (y : Int) < 4 := by omega
             have ze : ∀ h, ([.int .i64 0, .int .i64 1500, .int .i64 3155759999, .int .i64 3155760000] : List Value)[y]'h = .int .i64 (akT y) := akT_get hy
             generalize akT y = Z at *
             clear hC7 hg7))
        go_wp2_with fail
        refine hK.out _ _ ?_ (fun hHeld2 => ?_)
        · try dsimp only
          (first | with_reducible exact HSY.out _ HSc.out | with_reducible exact HSY.out _ HSa.out | with_reducible exact HSY.out _ HSe.out | with_reducible exact HSY.out _ HSb.out | with_reducible exact HSY.out _ HS8.out | with_reducible exact HSR.out _ HSc.out _ _ _ _ _ _ _ _ | with_reducible exact HSR.out _ HS8.out _ _ _ _ _ _ _ _ | with_reducible exact HSR2.out _ HSc.out _ _ _ _ _ _ _ _ _)
        clear hK K hHeld1
        try simp only [Act.put, List.setIfInBounds_toArray, List.set_cons_zero, List.set_cons_succ, List.getElem_toArray, List.getElem_cons_zero, List.getElem_cons_succ]
        refine wpAnyH_take (i := 5) (v := ?_) rfl (by kernel_rfl) (by kernel_rfl) (by kernel_rfl) (fun _ _ _ h => h) (Or.inl ⟨by rfl, ?_⟩) hHeld2 ?_
        rotate_left
        · intro w hSw
          try dsimp only at hSw
          go_simp
          try with_reducible rfl
        try simp only [Act.put, List.setIfInBounds_toArray, List.set_cons_zero, List.set_cons_succ, List.getElem_toArray, List.getElem_cons_zero, List.getElem_cons_succ]
        refine wpAnyH_ready (rs := [6, 7]) (by kernel_rfl) (by simp) (AllReadyH.cons rfl (fun K hK => ?_) (AllReadyH.cons rfl (fun K hK => ?_) AllReadyH.nil))
        · go_simp
          refine hK.out _ _ ?_ (fun hHeld3 => ?_)
          · try dsimp only
            (first | with_reducible exact HSY.out _ HSc.out | with_reducible exact HSY.out _ HSa.out | with_reducible exact HSY.out _ HSe.out | with_reducible exact HSY.out _ HSb.out | with_reducible exact HSY.out _ HS8.out | with_reducible exact HSR.out _ HSc.out _ _ _ _ _ _ _ _ | with_reducible exact HSR.out _ HS8.out _ _ _ _ _ _ _ _ | with_reducible exact HSR2.out _ HSc.out _ _ _ _ _ _ _ _ _)
          clear hK K hHeld2
          try simp only [Act.put, List.setIfInBounds_toArray, List.set_cons_zero, List.set_cons_succ, List.getElem_toArray, List.getElem_cons_zero, List.getElem_cons_succ]
          refine wpAnyH_ready (rs := [7]) (by kernel_rfl) (by simp) (AllReadyH.cons rfl (fun K hK => ?_) AllReadyH.nil)
          · go_simp
            refine hK.out _ _ ?_ (fun hHeld4 => ?_)
            · try dsimp only
              (first | with_reducible exact HSY.out _ HSc.out | with_reducible exact HSY.out _ HSa.out | with_reducible exact HSY.out _ HSe.out | with_reducible exact HSY.out _ HSb.out | with_reducible exact HSY.out _ HS8.out | with_reducible exact HSR.out _ HSc.out _ _ _ _ _ _ _ _ | with_reducible exact HSR.out _ HS8.out _ _ _ _ _ _ _ _ | with_reducible exact HSR2.out _ HSc.out _ _ _ _ _ _ _ _ _)
            clear hK K hHeld3
            try simp only [Act.put, List.setIfInBounds_toArray, List.set_cons_zero, List.set_cons_succ, List.getElem_toArray, List.getElem_cons_zero, List.getElem_cons_succ]
            refine wpAnyH_take (i := 8) (v := ?_) rfl (by kernel_rfl) (by kernel_rfl) (by kernel_rfl) (fun _ _ _ h => h) (Or.inl ⟨by rfl, ?_⟩) hHeld4 ?_
            rotate_left
            · intro w hSw
              try dsimp only at hSw
              go_simp
              try with_reducible rfl
            try simp only [Act.put, List.setIfInBounds_toArray, List.set_cons_zero, List.set_cons_succ, List.getElem_toArray, List.getElem_cons_zero, List.getElem_cons_succ]
            refine wpAnyH_take (i := 9) (v := ?_) rfl (by kernel_rfl) (by kernel_rfl) (by kernel_rfl) (fun _ _ _ h => h) (Or.inl ⟨by rfl, ?_⟩) hHeld4 ?_
            rotate_left
            · intro w hSw
              try dsimp only at hSw
              go_simp
              try with_reducible rfl
            try simp only [Act.put, List.setIfInBounds_toArray, List.set_cons_zero, List.set_cons_succ, List.getElem_toArray, List.getElem_cons_zero, List.getElem_cons_succ]
            refine wpAnyH_done (by kernel_rfl) ?_ _
            refine NoPanic.normal ?_
            have HE7 := hid (gt_fin HSc.out HB0.out HRw.out (.string nm) (.slice ah nh ch) (.int .i64 sk) (.int .i64 nw) (.int .i64 am) (.slice aa na ca) (.int .i64 rm) (.slice ar nr cr))
            have HE8 := hid (gt_fin HS8.out HB0.out HRw.out (.string nm) (.slice ah nh ch) (.int .i64 sk) (.int .i64 nw) (.int .i64 am) (.slice aa na ca) (.int .i64 rm) (.slice ar nr cr))
            have FH := hid (set8_heap (v0 := .string nm) (v1 := .slice ah nh ch) (v2 := .int .i64 sk) (v3 := .int .i64 nw) (v4 := .int .i64 am) (v5 := .slice aa na ca) (v6 := .int .i64 rm) (v7 := .slice ar nr cr) HSc.out.r)
            obtain ⟨⟨e0, e1, e2, e3, e4, e5, e6, e7⟩, _⟩ := g_box8f FH.out
            obtain ⟨⟨f0, f1, f2, f3, f4, f5, f6, f7⟩, _⟩ := g_box8f (u_blk_below FH.out ((Below.refl _ _).alloc (Nat.le_refl _) (.cells #[.int .i64 0, .int .i64 1500, .int .i64 3155759999, .int .i64 3155760000] 2)))
            have FG := hid (set8_heap (v0 := .string nm) (v1 := .slice ah nh ch) (v2 := .int .i64 sk) (v3 := .int .i64 nw) (v4 := .int .i64 am) (v5 := .slice aa na ca) (v6 := .int .i64 rm) (v7 := .slice ar nr cr) HS8.out.r)
            obtain ⟨⟨h0, h1, h2, h3, h4, h5, h6, h7⟩, _⟩ := g_box8f FG.out
            clear tf0 tf1 tf2 tf3 tf4 tf5 tf6 tf7 xf0 xf1 xf2 xf3 xf4 xf5 xf6 xf7 zd ze
            go_wp2_with fail
            refine bodyPost_ret (v := .tuple #[.agg #[.string nm, .slice ah nh ch, .int .i64 sk, .int .i64 nw, .int .i64 am, .slice aa na ca, .int .i64 rm, .slice ar nr cr], .string id, .int .i64 Z]) (by first | (simp [results, Tryz.results8, go_sem, t0, t1, t2, t3, t4, t5, t6, t7, x0, x1, x2, x3, x4, x5, x6, x7]; done) | (simp [results, Tryz.results8, go_sem, f0, f1, f2, f3, f4, f5, f6, f7]; done) | (simp [results, Tryz.results8, go_sem, t0, t1, t2, t3, t4, t5, t6, t7, f0, f1, f2, f3, f4, f5, f6, f7, n3, n4]; done)) rfl ⟨g, ah, ch, aa, ca, ar, cr, _, _, by rw [HGV.out], ?_, HE.out, HID.out, ?_⟩
            · first
                | with_reducible exact HE7.out.1
                | with_reducible exact HE8.out.1
                | exact HE7.out.1.below ((Below.refl _ _).alloc (Nat.le_refl _) _)
            · first
                | with_reducible exact HE7.out.2
                | with_reducible exact HE8.out.2
                | exact HE7.out.2.alloc HE7.out.2.size _
        · go_simp
          refine hK.out _ _ ?_ (fun hHeld3 => ?_)
          · try dsimp only
            (first | with_reducible exact HSY.out _ HSc.out | with_reducible exact HSY.out _ HSa.out | with_reducible exact HSY.out _ HSe.out | with_reducible exact HSY.out _ HSb.out | with_reducible exact HSY.out _ HS8.out | with_reducible exact HSR.out _ HSc.out _ _ _ _ _ _ _ _ | with_reducible exact HSR.out _ HS8.out _ _ _ _ _ _ _ _ | with_reducible exact HSR2.out _ HSc.out _ _ _ _ _ _ _ _ _)
          clear hK K hHeld2
          try simp only [Act.put, List.setIfInBounds_toArray, List.set_cons_zero, List.set_cons_succ, List.getElem_toArray, List.getElem_cons_zero, List.getElem_cons_succ]
          refine wpAnyH_take (i := 8) (v := ?_) rfl (by kernel_rfl) (by kernel_rfl) (by kernel_rfl) (fun _ _ _ h => h) (Or.inl ⟨by rfl, ?_⟩) hHeld3 ?_
          rotate_left
          · intro w hSw
            try dsimp only at hSw
            go_simp
            try with_reducible rfl
          try simp only [Act.put, List.setIfInBounds_toArray, List.set_cons_zero, List.set_cons_succ, List.getElem_toArray, List.getElem_cons_zero, List.getElem_cons_succ]
          refine wpAnyH_ready (rs := [6]) (by kernel_rfl) (by simp) (AllReadyH.cons rfl (fun K hK => ?_) AllReadyH.nil)
          · go_simp
            refine hK.out _ _ ?_ (fun hHeld4 => ?_)
            · try dsimp only
              (first | with_reducible exact HSY.out _ HSc.out | with_reducible exact HSY.out _ HSa.out | with_reducible exact HSY.out _ HSe.out | with_reducible exact HSY.out _ HSb.out | with_reducible exact HSY.out _ HS8.out | with_reducible exact HSR.out _ HSc.out _ _ _ _ _ _ _ _ | with_reducible exact HSR.out _ HS8.out _ _ _ _ _ _ _ _ | with_reducible exact HSR2.out _ HSc.out _ _ _ _ _ _ _ _ _)
            clear hK K hHeld3
            try simp only [Act.put, List.setIfInBounds_toArray, List.set_cons_zero, List.set_cons_succ, List.getElem_toArray, List.getElem_cons_zero, List.getElem_cons_succ]
            refine wpAnyH_take (i := 9) (v := ?_) rfl (by kernel_rfl) (by kernel_rfl) (by kernel_rfl) (fun _ _ _ h => h) (Or.inl ⟨by rfl, ?_⟩) hHeld4 ?_
            rotate_left
            · intro w hSw
              try dsimp only at hSw
              go_simp
              try with_reducible rfl
            try simp only [Act.put, List.setIfInBounds_toArray, List.set_cons_zero, List.set_cons_succ, List.getElem_toArray, List.getElem_cons_zero, List.getElem_cons_succ]
            refine wpAnyH_done (by kernel_rfl) ?_ _
            refine NoPanic.normal ?_
            have HE7 := hid (gt_fin HSc.out HB0.out HRw.out (.string nm) (.slice ah nh ch) (.int .i64 sk) (.int .i64 nw) (.int .i64 am) (.slice aa na ca) (.int .i64 rm) (.slice ar nr cr))
            have HE8 := hid (gt_fin HS8.out HB0.out HRw.out (.string nm) (.slice ah nh ch) (.int .i64 sk) (.int .i64 nw) (.int .i64 am) (.slice aa na ca) (.int .i64 rm) (.slice ar nr cr))
            have FH := hid (set8_heap (v0 := .string nm) (v1 := .slice ah nh ch) (v2 := .int .i64 sk) (v3 := .int .i64 nw) (v4 := .int .i64 am) (v5 := .slice aa na ca) (v6 := .int .i64 rm) (v7 := .slice ar nr cr) HSc.out.r)
            obtain ⟨⟨e0, e1, e2, e3, e4, e5, e6, e7⟩, _⟩ := g_box8f FH.out
            obtain ⟨⟨f0, f1, f2, f3, f4, f5, f6, f7⟩, _⟩ := g_box8f (u_blk_below FH.out ((Below.refl _ _).alloc (Nat.le_refl _) (.cells #[.int .i64 0, .int .i64 1500, .int .i64 3155759999, .int .i64 3155760000] 2)))
            have FG := hid (set8_heap (v0 := .string nm) (v1 := .slice ah nh ch) (v2 := .int .i64 sk) (v3 := .int .i64 nw) (v4 := .int .i64 am) (v5 := .slice aa na ca) (v6 := .int .i64 rm) (v7 := .slice ar nr cr) HS8.out.r)
            obtain ⟨⟨h0, h1, h2, h3, h4, h5, h6, h7⟩, _⟩ := g_box8f FG.out
            clear tf0 tf1 tf2 tf3 tf4 tf5 tf6 tf7 xf0 xf1 xf2 xf3 xf4 xf5 xf6 xf7 zd ze
            go_wp2_with fail
            refine bodyPost_ret (v := .tuple #[.agg #[.string nm, .slice ah nh ch, .int .i64 sk, .int .i64 nw, .int .i64 am, .slice aa na ca, .int .i64 rm, .slice ar nr cr], .string id, .int .i64 Z]) (by first | (simp [results, Tryz.results8, go_sem, t0, t1, t2, t3, t4, t5, t6, t7, x0, x1, x2, x3, x4, x5, x6, x7]; done) | (simp [results, Tryz.results8, go_sem, f0, f1, f2, f3, f4, f5, f6, f7]; done) | (simp [results, Tryz.results8, go_sem, t0, t1, t2, t3, t4, t5, t6, t7, f0, f1, f2, f3, f4, f5, f6, f7, n3, n4]; done)) rfl ⟨g, ah, ch, aa, ca, ar, cr, _, _, by rw [HGV.out], ?_, HE.out, HID.out, ?_⟩
            · first
                | with_reducible exact HE7.out.1
                | with_reducible exact HE8.out.1
                | exact HE7.out.1.below ((Below.refl _ _).alloc (Nat.le_refl _) _)
            · first
                | with_reducible exact HE7.out.2
                | with_reducible exact HE8.out.2
                | exact HE7.out.2.alloc HE7.out.2.size _
    · go_simp
      (first
        | (go_at_call 25; with_reducible refine (CB.out _ (by first | with_reducible exact HSd.out.c | with_reducible exact HSa.out.c | with_reducible exact HSe.out.c)).mono ?_; rintro e w7 ⟨y, rfl, hy, hC7, hg7⟩
           (first
             | (have HSn := hid (HSd.out.draw hC7 hg7))
             | (have HSn := hid (HSa.out.draw hC7 hg7); have zc := (show w7.cell? ⟨w4.heap.size, y, none⟩ = some (.int .i64 (akT y)) from akT_cell (blk_draw HIa.out hg7 HbI.out) hy))
             | (have HSn := hid (HSe.out.draw hC7 hg7); have zc := (show w7.cell? ⟨w4.heap.size, y, none⟩ = some (.int .i64 (akT y)) from akT_cell (blk_draw HIe.out hg7 HbI.out) hy)))
           clear HSc; have HSc := HSn; clear HSn
           have HS8 := hid (HSc.out.below ((Below.refl w7.heap.size w7).alloc (Nat.le_refl _) (.cells #[.int .i64 0, .int .i64 1500, .int .i64 3155759999, .int .i64 3155760000] 2)))
           obtain ⟨⟨t0, t1, t2, t3, t4, t5, t6, t7⟩, tf⟩ := g_box8f HSc.out.r
           have tf0 := tf 0
           have tf1 := tf 1
           have tf2 := tf 2
           have tf3 := tf 3
           have tf4 := tf 4
           have tf5 := tf 5
           have tf6 := tf 6
           have tf7 := tf 7
           clear tf
           obtain ⟨⟨x0, x1, x2, x3, x4, x5, x6, x7⟩, xf⟩ := g_box8f HS8.out.r
           have xf0 := xf 0
           have xf1 := xf 1
           have xf2 := xf 2
           have xf3 := xf 3
           have xf4 := xf 4
           have xf5 := xf 5
           have xf6 := xf 6
           have xf7 := xf 7
           clear xf
           have zd := akT_cell (heap_alloc_new w7 (.cells #[.int .i64 0, .int .i64 1500, .int .i64 3155759999, .int .i64 3155760000] 2)) hy
           have n3 : ¬ R = w7.heap.size := fun e => by have := lt_of_heap HSc.out.r; omega
           have n4 : ¬ w7.heap.size = R := fun e => n3 e.symm
           have hy3 : (y : Int) < 4 := by omega
           have ze : ∀ h, ([.int .i64 0, .int .i64 1500, .int .i64 3155759999, .int .i64 3155760000] : List Value)[y]'h = .int .i64 (akT y) := akT_get hy
           generalize akT y = Z at *
           clear hC7 hg7))
      go_wp2_with fail
      refine hK.out _ _ ?_ (fun hHeld1 => ?_)
      · try dsimp only
        (first | with_reducible exact HSY.out _ HSc.out | with_reducible exact HSY.out _ HSa.out | with_reducible exact HSY.out _ HSe.out | with_reducible exact HSY.out _ HSb.out | with_reducible exact HSY.out _ HS8.out | with_reducible exact HSR.out _ HSc.out _ _ _ _ _ _ _ _ | with_reducible exact HSR.out _ HS8.out _ _ _ _ _ _ _ _ | with_reducible exact HSR2.out _ HSc.out _ _ _ _ _ _ _ _ _)
      clear hK K hHeld0
      try simp only [Act.put, List.setIfInBounds_toArray, List.set_cons_zero, List.set_cons_succ, List.getElem_toArray, List.getElem_cons_zero, List.getElem_cons_succ]
      refine wpAnyH_ready (rs := [2, 7]) (by kernel_rfl) (by simp) (AllReadyH.cons rfl (fun K hK => ?_) (AllReadyH.cons rfl (fun K hK => ?_) AllReadyH.nil))
      · go_simp
        refine hK.out _ _ ?_ (fun hHeld2 => ?_)
        · try dsimp only
          (first | with_reducible exact HSY.out _ HSc.out | with_reducible exact HSY.out _ HSa.out | with_reducible exact HSY.out _ HSe.out | with_reducible exact HSY.out _ HSb.out | with_reducible exact HSY.out _ HS8.out | with_reducible exact HSR.out _ HSc.out _ _ _ _ _ _ _ _ | with_reducible exact HSR.out _ HS8.out _ _ _ _ _ _ _ _ | with_reducible exact HSR2.out _ HSc.out _ _ _ _ _ _ _ _ _)
        clear hK K hHeld1
        try simp only [Act.put, List.setIfInBounds_toArray, List.set_cons_zero, List.set_cons_succ, List.getElem_toArray, List.getElem_cons_zero, List.getElem_cons_succ]
        refine wpAnyH_take (i := 5) (v := ?_) rfl (by kernel_rfl) (by kernel_rfl) (by kernel_rfl) (fun _ _ _ h => h) (Or.inl ⟨by rfl, ?_⟩) hHeld2 ?_
        rotate_left
        · intro w hSw
          try dsimp only at hSw
          go_simp
          try with_reducible rfl
        try simp only [Act.put, List.setIfInBounds_toArray, List.set_cons_zero, List.set_cons_succ, List.getElem_toArray, List.getElem_cons_zero, List.getElem_cons_succ]
        refine wpAnyH_ready (rs := [6, 7]) (by kernel_rfl) (by simp) (AllReadyH.cons rfl (fun K hK => ?_) (AllReadyH.cons rfl (fun K hK => ?_) AllReadyH.nil))
        · go_simp
          refine hK.out _ _ ?_ (fun hHeld3 => ?_)
          · try dsimp only
            (first | with_reducible exact HSY.out _ HSc.out | with_reducible exact HSY.out _ HSa.out | with_reducible exact HSY.out _ HSe.out | with_reducible exact HSY.out _ HSb.out | with_reducible exact HSY.out _ HS8.out | with_reducible exact HSR.out _ HSc.out _ _ _ _ _ _ _ _ | with_reducible exact HSR.out _ HS8.out _ _ _ _ _ _ _ _ | with_reducible exact HSR2.out _ HSc.out _ _ _ _ _ _ _ _ _)
          clear hK K hHeld2
          try simp only [Act.put, List.setIfInBounds_toArray, List.set_cons_zero, List.set_cons_succ, List.getElem_toArray, List.getElem_cons_zero, List.getElem_cons_succ]
          refine wpAnyH_ready (rs := [7]) (by kernel_rfl) (by simp) (AllReadyH.cons rfl (fun K hK => ?_) AllReadyH.nil)
          · go_simp
            refine hK.out _ _ ?_ (fun hHeld4 => ?_)
            · try dsimp only
              (first | with_reducible exact HSY.out _ HSc.out | with_reducible exact HSY.out _ HSa.out | with_reducible exact HSY.out _ HSe.out | with_reducible exact HSY.out _ HSb.out | with_reducible exact HSY.out _ HS8.out | with_reducible exact HSR.out _ HSc.out _ _ _ _ _ _ _ _ | with_reducible exact HSR.out _ HS8.out _ _ _ _ _ _ _ _ | with_reducible exact HSR2.out _ HSc.out _ _ _ _ _ _ _ _ _)
            clear hK K hHeld3
            try simp only [Act.put, List.setIfInBounds_toArray, List.set_cons_zero, List.set_cons_succ, List.getElem_toArray, List.getElem_cons_zero, List.getElem_cons_succ]
            refine wpAnyH_take (i := 8) (v := ?_) rfl (by kernel_rfl) (by kernel_rfl) (by kernel_rfl) (fun _ _ _ h => h) (Or.inl ⟨by rfl, ?_⟩) hHeld4 ?_
            rotate_left
            · intro w hSw
              try dsimp only at hSw
              go_simp
              try with_reducible rfl
            try simp only [Act.put, List.setIfInBounds_toArray, List.set_cons_zero, List.set_cons_succ, List.getElem_toArray, List.getElem_cons_zero, List.getElem_cons_succ]
            refine wpAnyH_take (i := 9) (v := ?_) rfl (by kernel_rfl) (by kernel_rfl) (by kernel_rfl) (fun _ _ _ h => h) (Or.inl ⟨by rfl, ?_⟩) hHeld4 ?_
            rotate_left
            · intro w hSw
              try dsimp only at hSw
              go_simp
              try with_reducible rfl
            try simp only [Act.put, List.setIfInBounds_toArray, List.set_cons_zero, List.set_cons_succ, List.getElem_toArray, List.getElem_cons_zero, List.getElem_cons_succ]
            refine wpAnyH_done (by kernel_rfl) ?_ _
            refine NoPanic.normal ?_
            have HE7 := hid (gt_fin HSc.out HB0.out HRw.out (.string nm) (.slice ah nh ch) (.int .i64 sk) (.int .i64 nw) (.int .i64 am) (.slice aa na ca) (.int .i64 rm) (.slice ar nr cr))
            have HE8 := hid (gt_fin HS8.out HB0.out HRw.out (.string nm) (.slice ah nh ch) (.int .i64 sk) (.int .i64 nw) (.int .i64 am) (.slice aa na ca) (.int .i64 rm) (.slice ar nr cr))
            have FH := hid (set8_heap (v0 := .string nm) (v1 := .slice ah nh ch) (v2 := .int .i64 sk) (v3 := .int .i64 nw) (v4 := .int .i64 am) (v5 := .slice aa na ca) (v6 := .int .i64 rm) (v7 := .slice ar nr cr) HSc.out.r)
            obtain ⟨⟨e0, e1, e2, e3, e4, e5, e6, e7⟩, _⟩ := g_box8f FH.out
            obtain ⟨⟨f0, f1, f2, f3, f4, f5, f6, f7⟩, _⟩ := g_box8f (u_blk_below FH.out ((Below.refl _ _).alloc (Nat.le_refl _) (.cells #[.int .i64 0, .int .i64 1500, .int .i64 3155759999, .int .i64 3155760000] 2)))
            have FG := hid (set8_heap (v0 := .string nm) (v1 := .slice ah nh ch) (v2 := .int .i64 sk) (v3 := .int .i64 nw) (v4 := .int .i64 am) (v5 := .slice aa na ca) (v6 := .int .i64 rm) (v7 := .slice ar nr cr) HS8.out.r)
            obtain ⟨⟨h0, h1, h2, h3, h4, h5, h6, h7⟩, _⟩ := g_box8f FG.out
            clear tf0 tf1 tf2 tf3 tf4 tf5 tf6 tf7 xf0 xf1 xf2 xf3 xf4 xf5 xf6 xf7 zd ze
            go_wp2_with fail
            refine bodyPost_ret (v := .tuple #[.agg #[.string nm, .slice ah nh ch, .int .i64 sk, .int .i64 nw, .int .i64 am, .slice aa na ca, .int .i64 rm, .slice ar nr cr], .string id, .int .i64 Z]) (by first | (simp [results, Tryz.results8, go_sem, t0, t1, t2, t3, t4, t5, t6, t7, x0, x1, x2, x3, x4, x5, x6, x7]; done) | (simp [results, Tryz.results8, go_sem, f0, f1, f2, f3, f4, f5, f6, f7]; done) | (simp [results, Tryz.results8, go_sem, t0, t1, t2, t3, t4, t5, t6, t7, f0, f1, f2, f3, f4, f5, f6, f7, n3, n4]; done)) rfl ⟨g, ah, ch, aa, ca, ar, cr, _, _, by rw [HGV.out], ?_, HE.out, HID.out, ?_⟩
            · first
                | with_reducible exact HE7.out.1
                | with_reducible exact HE8.out.1
                | exact HE7.out.1.below ((Below.refl _ _).alloc (Nat.le_refl _) _)
            · first
                | with_reducible exact HE7.out.2
                | with_reducible exact HE8.out.2
                | exact HE7.out.2.alloc HE7.out.2.size _
        · go_simp
          refine hK.out _ _ ?_ (fun hHeld3 => ?_)
          · try dsimp only
            (first | with_reducible exact HSY.out _ HSc.out | with_reducible exact HSY.out _ HSa.out | with_reducible exact HSY.out _ HSe.out | with_reducible exact HSY.out _ HSb.out | with_reducible exact HSY.out _ HS8.out | with_reducible exact HSR.out _ HSc.out _ _ _ _ _ _ _ _ | with_reducible exact HSR.out _ HS8.out _ _ _ _ _ _ _ _ | with_reducible exact HSR2.out _ HSc.out _ _ _ _ _ _ _ _ _)
          clear hK K hHeld2
          try simp only [Act.put, List.setIfInBounds_toArray, List.set_cons_zero, List.set_cons_succ, List.getElem_toArray, List.getElem_cons_zero, List.getElem_cons_succ]
          refine wpAnyH_take (i := 8) (v := ?_) rfl (by kernel_rfl) (by kernel_rfl) (by kernel_rfl) (fun _ _ _ h => h) (Or.inl ⟨by rfl, ?_⟩) hHeld3 ?_
          rotate_left
          · intro w hSw
            try dsimp only at hSw
            go_simp
            try with_reducible rfl
          try simp only [Act.put, List.setIfInBounds_toArray, List.set_cons_zero, List.set_cons_succ, List.getElem_toArray, List.getElem_cons_zero, List.getElem_cons_succ]
          refine wpAnyH_ready (rs := [6]) (by kernel_rfl) (by simp) (AllReadyH.cons rfl (fun K hK => ?_) AllReadyH.nil)
          · go_simp
            refine hK.out _ _ ?_ (fun hHeld4 => ?_)
            · try dsimp only
              (first | with_reducible exact HSY.out _ HSc.out | with_reducible exact HSY.out _ HSa.out | with_reducible exact HSY.out _ HSe.out | with_reducible exact HSY.out _ HSb.out | with_reducible exact HSY.out _ HS8.out | with_reducible exact HSR.out _ HSc.out _ _ _ _ _ _ _ _ | with_reducible exact HSR.out _ HS8.out _ _ _ _ _ _ _ _ | with_reducible exact HSR2.out _ HSc.out _ _ _ _ _ _ _ _ _)
            clear hK K hHeld3
            try simp only [Act.put, List.setIfInBounds_toArray, List.set_cons_zero, List.set_cons_succ, List.getElem_toArray, List.getElem_cons_zero, List.getElem_cons_succ]
            refine wpAnyH_take (i := 9) (v := ?_) rfl (by kernel_rfl) (by kernel_rfl) (by kernel_rfl) (fun _ _ _ h => h) (Or.inl ⟨by rfl, ?_⟩) hHeld4 ?_
            rotate_left
            · intro w hSw
              try dsimp only at hSw
              go_simp
              try with_reducible rfl
            try simp only [Act.put, List.setIfInBounds_toArray, List.set_cons_zero, List.set_cons_succ, List.getElem_toArray, List.getElem_cons_zero, List.getElem_cons_succ]
            refine wpAnyH_done (by kernel_rfl) ?_ _
            refine NoPanic.normal ?_
            have HE7 := hid (gt_fin HSc.out HB0.out HRw.out (.string nm) (.slice ah nh ch) (.int .i64 sk) (.int .i64 nw) (.int .i64 am) (.slice aa na ca) (.int .i64 rm) (.slice ar nr cr))
            have HE8 := hid (gt_fin HS8.out HB0.out HRw.out (.string nm) (.slice ah nh ch) (.int .i64 sk) (.int .i64 nw) (.int .i64 am) (.slice aa na ca) (.int .i64 rm) (.slice ar nr cr))
            have FH := hid (set8_heap (v0 := .string nm) (v1 := .slice ah nh ch) (v2 := .int .i64 sk) (v3 := .int .i64 nw) (v4 := .int .i64 am) (v5 := .slice aa na ca) (v6 := .int .i64 rm) (v7 := .slice ar nr cr) HSc.out.r)
            obtain ⟨⟨e0, e1, e2, e3, e4, e5, e6, e7⟩, _⟩ := g_box8f FH.out
            obtain ⟨⟨f0, f1, f2, f3, f4, f5, f6, f7⟩, _⟩ := g_box8f (u_blk_below FH.out ((Below.refl _ _).alloc (Nat.le_refl _) (.cells #[.int .i64 0, .int .i64 1500, .int .i64 3155759999, .int .i64 3155760000] 2)))
            have FG := hid (set8_heap (v0 := .string nm) (v1 := .slice ah nh ch) (v2 := .int .i64 sk) (v3 := .int .i64 nw) (v4 := .int .i64 am) (v5 := .slice aa na ca) (v6 := .int .i64 rm) (v7 := .slice ar nr cr) HS8.out.r)
            obtain ⟨⟨h0, h1, h2, h3, h4, h5, h6, h7⟩, _⟩ := g_box8f FG.out
            clear tf0 tf1 tf2 tf3 tf4 tf5 tf6 tf7 xf0 xf1 xf2 xf3 xf4 xf5 xf6 xf7 zd ze
            go_wp2_with fail
            refine bodyPost_ret (v := .tuple #[.agg #[.string nm, .slice ah nh ch, .int .i64 sk, .int .i64 nw, .int .i64 am, .slice aa na ca, .int .i64 rm, .slice ar nr cr], .string id, .int .i64 Z]) (by first | (simp [results, Tryz.results8, go_sem, t0, t1, t2, t3, t4, t5, t6, t7, x0, x1, x2, x3, x4, x5, x6, x7]; done) | (simp [results, Tryz.results8, go_sem, f0, f1, f2, f3, f4, f5, f6, f7]; done) | (simp [results, Tryz.results8, go_sem, t0, t1, t2, t3, t4, t5, t6, t7, f0, f1, f2, f3, f4, f5, f6, f7, n3, n4]; done)) rfl ⟨g, ah, ch, aa, ca, ar, cr, _, _, by rw [HGV.out], ?_, HE.out, HID.out, ?_⟩
            · first
                | with_reducible exact HE7.out.1
                | with_reducible exact HE8.out.1
                | exact HE7.out.1.below ((Below.refl _ _).alloc (Nat.le_refl _) _)
            · first
                | with_reducible exact HE7.out.2
                | with_reducible exact HE8.out.2
                | exact HE7.out.2.alloc HE7.out.2.size _
      · go_simp
        refine hK.out _ _ ?_ (fun hHeld2 => ?_)
        · try dsimp only
          (first | with_reducible exact HSY.out _ HSc.out | with_reducible exact HSY.out _ HSa.out | with_reducible exact HSY.out _ HSe.out | with_reducible exact HSY.out _ HSb.out | with_reducible exact HSY.out _ HS8.out | with_reducible exact HSR.out _ HSc.out _ _ _ _ _ _ _ _ | with_reducible exact HSR.out _ HS8.out _ _ _ _ _ _ _ _ | with_reducible exact HSR2.out _ HSc.out _ _ _ _ _ _ _ _ _)
        clear hK K hHeld1
        try simp only [Act.put, List.setIfInBounds_toArray, List.set_cons_zero, List.set_cons_succ, List.getElem_toArray, List.getElem_cons_zero, List.getElem_cons_succ]
        refine wpAnyH_take (i := 8) (v := ?_) rfl (by kernel_rfl) (by kernel_rfl) (by kernel_rfl) (fun _ _ _ h => h) (Or.inl ⟨by rfl, ?_⟩) hHeld2 ?_
        rotate_left
        · intro w hSw
          try dsimp only at hSw
          go_simp
          try with_reducible rfl
        try simp only [Act.put, List.setIfInBounds_toArray, List.set_cons_zero, List.set_cons_succ, List.getElem_toArray, List.getElem_cons_zero, List.getElem_cons_succ]
        refine wpAnyH_ready (rs := [2]) (by kernel_rfl) (by simp) (AllReadyH.cons rfl (fun K hK => ?_) AllReadyH.nil)
        · go_simp
          refine hK.out _ _ ?_ (fun hHeld3 => ?_)
          · try dsimp only
            (first | with_reducible exact HSY.out _ HSc.out | with_reducible exact HSY.out _ HSa.out | with_reducible exact HSY.out _ HSe.out | with_reducible exact HSY.out _ HSb.out | with_reducible exact HSY.out _ HS8.out | with_reducible exact HSR.out _ HSc.out _ _ _ _ _ _ _ _ | with_reducible exact HSR.out _ HS8.out _ _ _ _ _ _ _ _ | with_reducible exact HSR2.out _ HSc.out _ _ _ _ _ _ _ _ _)
          clear hK K hHeld2
          try simp only [Act.put, List.setIfInBounds_toArray, List.set_cons_zero, List.set_cons_succ, List.getElem_toArray, List.getElem_cons_zero, List.getElem_cons_succ]
          refine wpAnyH_take (i := 5) (v := ?_) rfl (by kernel_rfl) (by kernel_rfl) (by kernel_rfl) (fun _ _ _ h => h) (Or.inl ⟨by rfl, ?_⟩) hHeld3 ?_
          rotate_left
          · intro w hSw
            try dsimp only at hSw
            go_simp
            try with_reducible rfl
          try simp only [Act.put, List.setIfInBounds_toArray, List.set_cons_zero, List.set_cons_succ, List.getElem_toArray, List.getElem_cons_zero, List.getElem_cons_succ]
          refine wpAnyH_ready (rs := [6]) (by kernel_rfl) (by simp) (AllReadyH.cons rfl (fun K hK => ?_) AllReadyH.nil)
          · go_simp
            refine hK.out _ _ ?_ (fun hHeld4 => ?_)
            · try dsimp only
              (first | with_reducible exact HSY.out _ HSc.out | with_reducible exact HSY.out _ HSa.out | with_reducible exact HSY.out _ HSe.out | with_reducible exact HSY.out _ HSb.out | with_reducible exact HSY.out _ HS8.out | with_reducible exact HSR.out _ HSc.out _ _ _ _ _ _ _ _ | with_reducible exact HSR.out _ HS8.out _ _ _ _ _ _ _ _ | with_reducible exact HSR2.out _ HSc.out _ _ _ _ _ _ _ _ _)
            clear hK K hHeld3
            try simp only [Act.put, List.setIfInBounds_toArray, List.set_cons_zero, List.set_cons_succ, List.getElem_toArray, List.getElem_cons_zero, List.getElem_cons_succ]
            refine wpAnyH_take (i := 9) (v := ?_) rfl (by kernel_rfl) (by kernel_rfl) (by kernel_rfl) (fun _ _ _ h => h) (Or.inl ⟨by rfl, ?_⟩) hHeld4 ?_
            rotate_left
            · intro w hSw
              try dsimp only at hSw
              go_simp
              try with_reducible rfl
            try simp only [Act.put, List.setIfInBounds_toArray, List.set_cons_zero, List.set_cons_succ, List.getElem_toArray, List.getElem_cons_zero, List.getElem_cons_succ]
            refine wpAnyH_done (by kernel_rfl) ?_ _
            refine NoPanic.normal ?_
            have HE7 := hid (gt_fin HSc.out HB0.out HRw.out (.string nm) (.slice ah nh ch) (.int .i64 sk) (.int .i64 nw) (.int .i64 am) (.slice aa na ca) (.int .i64 rm) (.slice ar nr cr))
            have HE8 := hid (gt_fin HS8.out HB0.out HRw.out (.string nm) (.slice ah nh ch) (.int .i64 sk) (.int .i64 nw) (.int .i64 am) (.slice aa na ca) (.int .i64 rm) (.slice ar nr cr))
            have FH := hid (set8_heap (v0 := .string nm) (v1 := .slice ah nh ch) (v2 := .int .i64 sk) (v3 := .int .i64 nw) (v4 := .int .i64 am) (v5 := .slice aa na ca) (v6 := .int .i64 rm) (v7 := .slice ar nr cr) HSc.out.r)
            obtain ⟨⟨e0, e1, e2, e3, e4, e5, e6, e7⟩, _⟩ := g_box8f FH.out
            obtain ⟨⟨f0, f1, f2, f3, f4, f5, f6, f7⟩, _⟩ := g_box8f (u_blk_below FH.out ((Below.refl _ _).alloc (Nat.le_refl _) (.cells #[.int .i64 0, .int .i64 1500, .int .i64 3155759999, .int .i64 3155760000] 2)))
            have FG := hid (set8_heap (v0 := .string nm) (v1 := .slice ah nh ch) (v2 := .int .i64 sk) (v3 := .int .i64 nw) (v4 := .int .i64 am) (v5 := .slice aa na ca) (v6 := .int .i64 rm) (v7 := .slice ar nr cr) HS8.out.r)
            obtain ⟨⟨h0, h1, h2, h3, h4, h5, h6, h7⟩, _⟩ := g_box8f FG.out
            clear tf0 tf1 tf2 tf3 tf4 tf5 tf6 tf7 xf0 xf1 xf2 xf3 xf4 xf5 xf6 xf7 zd ze
            go_wp2_with fail
            refine bodyPost_ret (v := .tuple #[.agg #[.string nm, .slice ah nh ch, .int .i64 sk, .int .i64 nw, .int .i64 am, .slice aa na ca, .int .i64 rm, .slice ar nr cr], .string id, .int .i64 Z]) (by first | (simp [results, Tryz.results8, go_sem, t0, t1, t2, t3, t4, t5, t6, t7, x0, x1, x2, x3, x4, x5, x6, x7]; done) | (simp [results, Tryz.results8, go_sem, f0, f1, f2, f3, f4, f5, f6, f7]; done) | (simp [results, Tryz.results8, go_sem, t0, t1, t2, t3, t4, t5, t6, t7, f0, f1, f2, f3, f4, f5, f6, f7, n3, n4]; done)) rfl ⟨g, ah, ch, aa, ca, ar, cr, _, _, by rw [HGV.out], ?_, HE.out, HID.out, ?_⟩
            · first
                | with_reducible exact HE7.out.1
                | with_reducible exact HE8.out.1
                | exact HE7.out.1.below ((Below.refl _ _).alloc (Nat.le_refl _) _)
            · first
                | with_reducible exact HE7.out.2
                | with_reducible exact HE8.out.2
                | exact HE7.out.2.alloc HE7.out.2.size _

end Go.Proofs.YtgdfeicojgnoaaaGreatDoor
