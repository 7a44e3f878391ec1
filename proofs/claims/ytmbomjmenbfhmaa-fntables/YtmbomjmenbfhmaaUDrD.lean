/- The draws of a table, an id and a time. -/
import Derived.Test.YtmbomjmenbfhmaaUDrC
namespace Go.Proofs.Ytmbomjmenbfhmaa
open Go.RowKit
set_option linter.unusedVariables false
set_option linter.unusedSimpArgs false

theorem RoRow.of {w w' : World} {a : Option Addr} {l : List Ro} (h : RoRow w a l) (hs : w.heap.size ≤ w'.heap.size) (hk : ∀ g f s, g < w.heap.size → w.cell? ⟨g, f, none⟩ = some (.string s) → w'.heap[g]? = w.heap[g]?) : RoRow w' a l := by
  intro j hj
  obtain ⟨b, o, ha, hlt, hc, hd⟩ := h j hj
  have e := hk b _ _ hlt hc
  refine ⟨b, o, ha, Nat.lt_of_lt_of_le hlt hs, ?_, ?_⟩
  · rw [← hc]; unfold World.cell?; rw [e]
  · rw [← hd]; unfold World.cell?; rw [e]

theorem RoRow.draw {w0 w w' : World} {a a' : Option Addr} {len cap b : Nat} {l : List Ro} (h : RoRow w a' l) (hC : Cur w0 a len cap b w) (hg : w.grownBy w' (some b)) : RoRow w' a' l := by
  refine h.of hg.size (fun g f s hlt hc => hg.block g hlt (fun e => ?_))
  have e' := Option.some.inj e
  subst e'
  obtain ⟨_, _, i, x, _, _, hh⟩ := hC
  rw [Lib.cell_of_heap hh] at hc
  match f, hc with
  | 0, hc => cases hc
  | 1, hc => cases hc
  | 2, hc => cases hc
  | f + 3, hc => cases hc

theorem RoRow.setT {w w' : World} {a' : Option Addr} {R : Nat} {x : Int} {a2 : Option Addr} {n c : Nat} {l : List Ro} (h : RoRow w a' l) (hR : w.heap[R]? = some (.cells #[.int .i64 x, .slice a2 n c] 26 (0, 0))) (hk : u_KeepB (fun k => k = R) w w') : RoRow w' a' l := by
  refine h.of hk.size (fun g f s hlt hc => hk.block g hlt (fun e => ?_))
  subst e
  rw [Lib.cell_of_heap hR] at hc
  match f, hc with
  | 0, hc => cases hc
  | 1, hc => cases hc
  | f + 2, hc => cases hc

theorem set2_keep (w : World) (R : Nat) (u v : Value) : u_KeepB (fun k => k = R) w ((w.setCell ⟨R, 0, none⟩ u).setCell ⟨R, 1, none⟩ v) :=
  (u_KeepB.of_set (p := fun k => k = R) w 0 u rfl).trans (u_KeepB.of_set (p := fun k => k = R) _ 1 _ rfl)

def tmT (y : Nat) : Int := if y = 0 then 0 else if y = 1 then 50 else if y = 2 then 3155759999 else 3155760000

theorem tmT_cell {W : World} {h y : Nat} (hh : W.heap[h]? = some (.cells #[.int .i64 0, .int .i64 50, .int .i64 3155759999, .int .i64 3155760000] 2 (0, 0))) (hy : y < 4) : W.cell? ⟨h, y, none⟩ = some (.int .i64 (tmT y)) := by
  have hy3 : y = 0 ∨ y = 1 ∨ y = 2 ∨ y = 3 := by omega
  rw [Lib.cell_of_heap hh]
  rcases hy3 with rfl | rfl | rfl | rfl <;> rfl

theorem tmT_get {y : Nat} (hy : y < 4) : ∀ h, ([.int .i64 0, .int .i64 50, .int .i64 3155759999, .int .i64 3155760000] : List Value)[y]'h = .int .i64 (tmT y) := by
  have hy3 : y = 0 ∨ y = 1 ∨ y = 2 ∨ y = 3 := by omega
  rcases hy3 with rfl | rfl | rfl | rfl <;> exact fun _ => rfl

/-- A table that is drawn, at the end of the draw. -/
theorem tb_end {w w1 wr : World} {R P : Nat} {m : Int} {l : List Ro} {a' : Option Addr} {c' : Nat} (hRo : RoRow wr a' l) (hR : wr.heap[R]? = some (.cells #[.int .i64 0, .slice none 0 0] 26 (0, 0))) (hRw : w.heap.size ≤ R) (hb : Below w.heap.size w wr) :
    RoRow ((wr.setCell ⟨R, 0, none⟩ (.int .i64 m)).setCell ⟨R, 1, none⟩ (.slice a' l.length c')) a' l ∧ Below w.heap.size w ((wr.setCell ⟨R, 0, none⟩ (.int .i64 m)).setCell ⟨R, 1, none⟩ (.slice a' l.length c')) := by
  have hk := set2_keep wr R (.int .i64 m) (.slice a' l.length c')
  refine ⟨hRo.setT hR hk, ?_⟩
  exact hb.grown (row := some R) ⟨hk.os, hk.tape, hk.output, hk.size, fun k hk1 hk2 => hk.block k hk1 (fun e => hk2 (by rw [e]))⟩ hb.size (fun k e => by cases e; exact hRw)

theorem set2_heap {w : World} {R : Nat} {x y u v : Value} {T : TypeId} (h : w.heap[R]? = some (.cells #[x, y] T (0, 0))) : ((w.setCell ⟨R, 0, none⟩ u).setCell ⟨R, 1, none⟩ v).heap[R]? = some (.cells #[u, v] T (0, 0)) := by
  have h1 := u_heap_set (i := 0) h u
  have h2 := u_heap_set (i := 1) h1 v
  simpa using h2

/-- Where the draw stands. -/
structure EnS (W : World) (a : Option Addr) (len cap b P R : Nat) (m : Int) (l : List Ro) (a' : Option Addr) (ln c' : Nat) (wr : World) : Prop where
  c : Cur W a len cap b wr
  o : RoRow wr a' l
  p : wr.heap[P]? = some (.cells #[.int .i64 m, .slice a' ln c'] 26 (0, 0))
  r : wr.heap[R]? = some (.cells #[.int .i64 0, .slice none 0 0] 26 (0, 0))

theorem EnS.draw {W : World} {a : Option Addr} {len cap b P R : Nat} {m : Int} {l : List Ro} {a' : Option Addr} {ln c' : Nat} {w w' : World} (h : EnS W a len cap b P R m l a' ln c' w) (hC : Cur W a len cap b w') (hg : w.grownBy w' (some b)) : EnS W a len cap b P R m l a' ln c' w' :=
  ⟨hC, h.o.draw h.c hg, blk_draw h.p hg (h.c.tableNe h.p), blk_draw h.r hg (h.c.tableNe h.r)⟩

theorem EnS.below {W : World} {a : Option Addr} {len cap b P R : Nat} {m : Int} {l : List Ro} {a' : Option Addr} {ln c' : Nat} {w w' : World} (h : EnS W a len cap b P R m l a' ln c' w) (hb : Below w.heap.size w w') : EnS W a len cap b P R m l a' ln c' w' :=
  ⟨h.c.below hb, h.o.below hb, u_blk_below h.p hb, u_blk_below h.r hb⟩

theorem EnS.fin {w W : World} {a : Option Addr} {len cap b P R : Nat} {m : Int} {l : List Ro} {a' : Option Addr} {ln c' : Nat} {wr : World} (h : EnS W a len cap b P R m l a' ln c' wr) (hb : Below w.heap.size w W) (hRw : w.heap.size ≤ R) (hln : l.length = ln) :
    RoRow ((wr.setCell ⟨R, 0, none⟩ (.int .i64 m)).setCell ⟨R, 1, none⟩ (.slice a' ln c')) a' l ∧ Below w.heap.size w ((wr.setCell ⟨R, 0, none⟩ (.int .i64 m)).setCell ⟨R, 1, none⟩ (.slice a' ln c')) := by
  subst hln
  exact tb_end (w1 := w) (P := P) h.o h.r hRw (hb.trans (h.c.2.1.mono hb.size))

set_option maxRecDepth 8000 in
set_option maxHeartbeats 16000000 in
theorem cDrawEntered (a : Option Addr) (len cap : Nat) (w : World) (hlen : len ≤ 4096) (hcr : CodeRow w a len) :
    Calls Try.prog 10 #[.slice a len cap] w fun e w' => ∃ t a' c' id z, e = .returned (.tuple #[tbV t a' c', .string id, .int .i64 z]) ∧ RoRow w' a' t.rows ∧ t.rows.length ≤ 6 ∧ RoSz 10 t.rows ∧ id.size ≤ 10 ∧ Below w.heap.size w w' := by
  have HB0 := hid ((Below.refl w.heap.size w).alloc (Nat.le_refl _) (.cells #[.int .i64 0, .slice none 0 0] 26))
  have HCR := hid (code_below hcr HB0.out)
  have HR0 := hid (heap_alloc_new w (.cells #[.int .i64 0, .slice none 0 0] 26))
  clear hcr
  go_enter Try.func10, Try.ntmps10
  go_wp2_with fail
  obtain ⟨W, hW⟩ : ∃ W, w.alloc (.cells #[.int .i64 0, .slice none 0 0] 26) = W := ⟨_, rfl⟩
  rw [hW] at HB0 HR0 HCR ⊢
  clear hW
  obtain ⟨R, hR⟩ : ∃ R, w.heap.size = R := ⟨_, rfl⟩
  have HRw := hid (show w.heap.size ≤ R by omega)
  have HRlt := hid (show R < W.heap.size by rw [← hR]; exact lt_of_heap HR0.out)
  rw [hR] at HR0 ⊢
  refine (cNew a len cap _ hlen HCR.out).mono ?_
  rintro e w1 ⟨rfl, hC1⟩
  have HC1 := hid hC1
  clear hC1
  obtain ⟨b, hb⟩ : ∃ b, W.heap.size = b := ⟨_, rfl⟩
  simp only [hb] at HC1 ⊢
  go_wp2_with fail
  refine (cDrawTb W a len cap b _ hlen HCR.out HC1.out).mono ?_
  rintro e w2 ⟨⟨m, l⟩, a', c', rfl, hRo, hl, hz, hC2, _⟩
  have HT2 := hid hRo
  have HC2 := hid (hC2.alloc (.cells #[.int .i64 m, .slice a' l.length c'] 26))
  have HL := hid hl
  have HZ := hid hz
  have HRo := hid (hRo.below ((Below.refl w2.heap.size w2).alloc (Nat.le_refl _) (.cells #[.int .i64 m, .slice a' l.length c'] 26)))
  have HP2 := hid (heap_alloc_new w2 (.cells #[.int .i64 m, .slice a' l.length c'] 26))
  clear hRo hl hz hC2 HC1
  simp only [tbV]
  obtain ⟨ln, hln⟩ : ∃ ln, l.length = ln := ⟨_, rfl⟩
  simp only [hln] at HRo HP2 HC2 ⊢
  go_wp2_with fail
  obtain ⟨W2, hW2⟩ : ∃ W, w2.alloc (.cells #[.int .i64 m, .slice a' ln c'] 26) = W := ⟨_, rfl⟩
  rw [hW2] at HRo HP2 HC2
  simp only [hW2]
  clear hW2
  obtain ⟨P, hP⟩ : ∃ P, w2.heap.size = P := ⟨_, rfl⟩
  rw [hP] at HP2
  simp only [hP]
  clear hP
  refine (cText ⟨#[49, 50, 51]⟩ 3 W a len cap b _ (by decide) (by decide) (by decide) (by decide) hlen HCR.out HC2.out).mono ?_
  rintro e w3 ⟨t, rfl, ht, hC3, hg3⟩
  have HC3 := hid hC3
  have HRo3 := hid (HRo.out.draw HC2.out hg3)
  have HP3 := hid (blk_draw HP2.out hg3 (HC2.out.tableNe HP2.out))
  have HID := hid (show ((⟨#[114]⟩ : ByteArray) ++ t).size ≤ 10 by rw [ByteArray.size_append]; show 1 + t.size ≤ 10; omega)
  have hsz : ¬ 9223372036854775807 < (⟨#[114]⟩ : ByteArray).size + t.size := by show ¬ 9223372036854775807 < 1 + t.size; omega
  obtain ⟨id, hid'⟩ : ∃ id, (⟨#[114]⟩ : ByteArray) ++ t = id := ⟨_, rfl⟩
  rw [hid'] at HID
  clear hC3 hg3 HC2 HRo HP2 ht
  go_wp2_with fail
  refine (cOnce 12 W a len cap b _ hlen HCR.out HC3.out (by decide) (by decide)).mono ?_
  rintro e w4 ⟨y, rfl, hC4, hg4⟩
  have HC4 := hid hC4
  have HRo4 := hid (HRo3.out.draw HC3.out hg4)
  have HP4 := hid (blk_draw HP3.out hg4 (HC3.out.tableNe HP3.out))
  clear hC4 hg4 HC3 HRo3 HP3 hid' hsz HT2
  obtain ⟨ID, hI1, hI2⟩ : ∃ ID : ByteArray, (if y = true then ⟨#[]⟩ else id) = ID ∧ ID.size ≤ 10 := ⟨_, rfl, by
    cases y
    · exact HID.out
    · show (0 : Nat) ≤ 10; decide⟩
  have HI2 := hid hI2
  clear hI2 HID
  have HS4 := hid (EnS.mk HC4.out HRo4.out HP4.out (u_blk_below HR0.out HC4.out.2.1) : EnS W a len cap b P R m l a' ln c' w4)
  have HSd := hid (HS4.out.below ((Below.refl w4.heap.size w4).drew))
  have HBa := hid ((Below.refl w4.drew.heap.size w4.drew).alloc (Nat.le_refl _) (.cells #[.int .i64 0, .int .i64 50, .int .i64 3155759999, .int .i64 3155760000] 2))
  have HSa := hid (HSd.out.below HBa.out)
  have HSb := hid (HS4.out.below ((Below.refl w4.heap.size w4).alloc (Nat.le_refl _) (.cells #[.int .i64 0, .int .i64 50, .int .i64 3155759999, .int .i64 3155760000] 2)))
  have HIa := hid (heap_alloc_new w4.drew (.cells #[.int .i64 0, .int .i64 50, .int .i64 3155759999, .int .i64 3155760000] 2))
  have HbI := hid (show ¬ b = w4.drew.heap.size from fun e => by have := HSd.out.c.lt; omega)
  obtain ⟨⟨p0, p1⟩, p2, p3⟩ := u_box2f HSd.out.p
  obtain ⟨⟨q0, q1⟩, q2, q3⟩ := u_box2f HSa.out.p
  obtain ⟨⟨d0, d1⟩, d2, d3⟩ := u_box2f HSb.out.p
  have n1 : ¬ R = w4.heap.size := fun e => by have := lt_of_heap HS4.out.r; omega
  have n2 : ¬ w4.heap.size = R := fun e => n1 e.symm
  clear HS4 HC4 HRo4 HP4
  cases y
  all_goals
    simp only [if_true, if_false, Bool.false_eq_true] at hI1
    subst hI1
    go_wp2_with fail
    go_region_law (go_simp; go_at_call 33; refine (cBelow 4 W a len cap b _ hlen HCR.out (by first | exact HSd.out.c | exact HSa.out.c) (by decide) (by decide)).mono ?_; rintro e w7 ⟨y, rfl, hy, hC7, hg7⟩
                   first
                    | (have HS7 := hid (HSd.out.draw hC7 hg7))
                    | (have HS7 := hid (HSa.out.draw hC7 hg7); have zc := (show w7.cell? ⟨w4.heap.size, y, none⟩ = some (.int .i64 (tmT y)) from tmT_cell (blk_draw HIa.out hg7 HbI.out) hy))
                   obtain ⟨⟨r0, r1⟩, r2, r3⟩ := u_box2f HS7.out.p
                   obtain ⟨⟨t0, t1⟩, t2, t3⟩ := u_box2f HS7.out.r
                   have HS8 := hid (HS7.out.below ((Below.refl w7.heap.size w7).alloc (Nat.le_refl _) (.cells #[.int .i64 0, .int .i64 50, .int .i64 3155759999, .int .i64 3155760000] 2)))
                   obtain ⟨⟨s0, s1⟩, s2, s3⟩ := u_box2f HS8.out.p
                   obtain ⟨⟨x0, x1⟩, x2, x3⟩ := u_box2f HS8.out.r
                   have zd := tmT_cell (heap_alloc_new w7 (.cells #[.int .i64 0, .int .i64 50, .int .i64 3155759999, .int .i64 3155760000] 2)) hy
                   have n3 : ¬ R = w7.heap.size := fun e => by have := lt_of_heap HS7.out.r; omega
                   have n4 : ¬ w7.heap.size = R := fun e => n3 e.symm
                   have hy3 : (y : Int) < 4 := by omega
                   have ze : ∀ h, ([.int .i64 0, .int .i64 50, .int .i64 3155759999, .int .i64 3155760000] : List Value)[y]'h = .int .i64 (tmT y) := tmT_get hy
                   generalize tmT y = Z at *
                   clear hC7 hg7)
    all_goals
      have HE7 := hid (HS7.out.fin HB0.out HRw.out hln)
      have HE8 := hid (HS8.out.fin HB0.out HRw.out hln)
      have FH := hid (set2_heap (u := .int .i64 m) (v := .slice a' ln c') HS7.out.r)
      obtain ⟨⟨f0, f1⟩, _, _⟩ := u_box2f (u_blk_below FH.out ((Below.refl _ _).alloc (Nat.le_refl _) (.cells #[.int .i64 0, .int .i64 50, .int .i64 3155759999, .int .i64 3155760000] 2)))
      go_wp2_with fail
      refine bodyPost_ret (v := .tuple #[tbV ⟨m, l⟩ a' c', .string _, .int .i64 Z]) (by simp [results, Try.results10, go_sem, t0, t1, x0, x1, f0, f1, n3, n4, ze, tbV, hln]) rfl ⟨⟨m, l⟩, a', c', _, _, rfl, ?_, HL.out, HZ.out, HI2.out, ?_⟩
      · first
          | exact HE7.out.1
          | exact HE8.out.1
          | exact HE7.out.1.below ((Below.refl _ _).alloc (Nat.le_refl _) _)
      · first
          | exact HE7.out.2
          | exact HE8.out.2
          | exact HE7.out.2.alloc HE7.out.2.size _

end Go.Proofs.Ytmbomjmenbfhmaa
