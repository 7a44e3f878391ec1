/- Contract of the specification's l16Draw. -/
import Derived.Test.YtgdfeicojgnoaaaGreatDoorM16
import Derived.Test.YtgdfeicojgnoaaaGreatDoorM9
namespace Go.Proofs.YtgdfeicojgnoaaaGreatDoor
open Go.RowKit
set_option linter.unusedVariables false
set_option linter.unusedSimpArgs false

/-- What l16Draw hands back. -/
def DrawPost (w0 : World) (a : Option Addr) (len cap b : Nat) (w : World) (e : Ending) (w' : World) : Prop :=
  ∃ t a' c', e = .returned (tbV t a' c') ∧ w'.ownsRow w.heap.size 83 2 (.slice a' t.rows.length c') t.rows.length (roC t.rows) ∧ t.rows.length ≤ 6 ∧ RoSz 10 t.rows ∧ Cur w0 a len cap b w' ∧ w.grownBy w' (some b)

theorem own_row {w : World} {B n : Nat} {a : Option Addr} {c : Nat} {l : List Ro} (h : w.ownsRow B 83 2 (.slice a n c) n (roC l)) (hn : l.length = n) : RoRow w a l := by
  obtain ⟨a', c', e, ho⟩ := own_ro h hn
  cases e
  exact ho.row

/-- The end: what lies in block P is laid into the result's block. -/
theorem draw_end {w0 w wr : World} {a : Option Addr} {len cap b P R : Nat} {m : Int} {l : List Ro} {a' : Option Addr} {c' : Nat} (hP : wr.heap[P]? = some (.cells #[.int .i64 m, .slice a' l.length c'] 27 (0, 0))) (hO : wr.ownsRow w.heap.size 83 2 (.slice a' l.length c') l.length (roC l))
    (hR : wr.heap[R]? = some (.cells #[.int .i64 0, .slice none 0 0] 27 (0, 0))) (hRw : w.heap.size ≤ R) (hl : l.length ≤ 6) (hz : RoSz 10 l) (hC : Cur w0 a len cap b wr) (hG : w.grownBy wr (some b)) (h0 : w0.heap.size ≤ w.heap.size) :
    DrawPost w0 a len cap b w (.returned (tbV ⟨m, l⟩ a' c')) ((wr.setCell ⟨R, 0, none⟩ (.int .i64 m)).setCell ⟨R, 1, none⟩ (.slice a' l.length c')) := by
  have hbR := hC.tableNe hR
  have hk : u_KeepB (fun k => k = R) wr ((wr.setCell ⟨R, 0, none⟩ (.int .i64 m)).setCell ⟨R, 1, none⟩ (.slice a' l.length c')) := (u_KeepB.of_set (p := fun k => k = R) wr 0 (.int .i64 m) rfl).trans (u_KeepB.of_set (p := fun k => k = R) _ 1 _ rfl)
  refine ⟨⟨m, l⟩, a', c', rfl, ?_, hl, hz, hC.keepU hk hbR (Nat.le_trans h0 hRw), gr_keep hG hk hRw⟩
  have hne : (Value.slice a' l.length c').ownBlock ≠ some R := fun e => by
    rcases hO.2 with ⟨e1, _⟩ | ⟨g, cp, cur, e1, _, k2, _⟩
    · rw [e1] at e; cases e
    · rw [e1] at e
      have h1 : g = R := Option.some.inj e
      subst h1
      rw [hR] at k2
      injection k2 with k2
      injection k2 with _ ht
      exact absurd ht (by decide)
  exact u_own_set (u_own_set hO hne _ _) hne _ _

theorem own_ne_table {w : World} {B n P : Nat} {v : Value} {xs : List Value} {cs : Array Value} (h : w.ownsRow B 83 2 v n xs) (hP : w.heap[P]? = some (.cells cs 27 (0, 0))) : v.ownBlock ≠ some P := fun e => by
  rcases h.2 with ⟨e1, _⟩ | ⟨g, cp, cur, e1, _, k2, _⟩
  · rw [e1] at e; cases e
  · rw [e1] at e
    have h1 : g = P := Option.some.inj e
    subst h1
    rw [hP] at k2
    injection k2 with k2
    injection k2 with _ ht
    exact absurd ht (by decide)

theorem own_ne_cur {w0 w : World} {a : Option Addr} {len cap b B n : Nat} {v : Value} {xs : List Value} (h : w.ownsRow B 83 2 v n xs) (hC : Cur w0 a len cap b w) : v.ownBlock ≠ some b := fun e => by
  obtain ⟨_, _, i, x, _, _, hh⟩ := hC
  rcases h.2 with ⟨e1, _⟩ | ⟨g, cp, cur, e1, _, k2, _⟩
  · rw [e1] at e; cases e
  · rw [e1] at e
    have h1 : g = b := Option.some.inj e
    subst h1
    rw [hh] at k2
    injection k2 with k2
    injection k2 with _ ht
    exact absurd ht (by decide)

/-- Where the drawing stands: the table in P, the result's box in R, the cursor, what grew. -/
structure DrSt (w0 : World) (a : Option Addr) (len cap b : Nat) (w wr : World) (P R : Nat) (m : Int) (l : List Ro) : Prop where
  t : TbD wr w.heap.size P m l
  c : Cur w0 a len cap b wr
  g : w.grownBy wr (some b)
  r : wr.heap[R]? = some (.cells #[.int .i64 0, .slice none 0 0] 27 (0, 0))

theorem DrSt.draw {w0 : World} {a : Option Addr} {len cap b : Nat} {w wr w' : World} {P R : Nat} {m : Int} {l : List Ro} (h : DrSt w0 a len cap b w wr P R m l) (hC : Cur w0 a len cap b w') (hg : wr.grownBy w' (some b)) : DrSt w0 a len cap b w w' P R m l :=
  ⟨h.t.draw h.c hg, hC, gtrans h.g hg, blk_draw h.r hg (h.c.tableNe h.r)⟩

theorem DrSt.below {w0 : World} {a : Option Addr} {len cap b : Nat} {w wr w' : World} {P R : Nat} {m : Int} {l : List Ro} (h : DrSt w0 a len cap b w wr P R m l) (hb : Below wr.heap.size wr w') : DrSt w0 a len cap b w w' P R m l :=
  ⟨h.t.below hb, h.c.below hb, u_gr_below h.g hb, u_blk_below h.r hb⟩

theorem DrSt.set0 {w0 : World} {a : Option Addr} {len cap b : Nat} {w wr : World} {P R : Nat} {m : Int} {l : List Ro} (h : DrSt w0 a len cap b w wr P R m l) (h0 : w0.heap.size ≤ w.heap.size) (hP : w.heap.size ≤ P) (hRP : ¬ R = P) (m' : Int) : DrSt w0 a len cap b w (wr.setCell ⟨P, 0, none⟩ (.int .i64 m')) P R m' l := by
  obtain ⟨v, hv, ho⟩ := h.t
  have hk : u_KeepB (fun k => k = P) wr (wr.setCell ⟨P, 0, none⟩ (.int .i64 m')) := u_KeepB.of_set (p := fun k => k = P) wr 0 (.int .i64 m') rfl
  refine ⟨⟨v, ?_, u_own_set ho (own_ne_table ho hv) _ _⟩, h.c.keepU hk (h.c.tableNe hv) (Nat.le_trans h0 hP), gr_keep h.g hk hP, (hk.block R (lt_of_heap h.r) hRP).trans h.r⟩
  have := u_heap_set (i := 0) hv (.int .i64 m')
  simpa using this

/-- The rows are grown, and laid into P. -/
theorem DrSt.more {w0 : World} {a : Option Addr} {len cap b : Nat} {w wr w' : World} {P R : Nat} {m : Int} {l l' : List Ro} (h : DrSt w0 a len cap b w wr P R m l) (h0 : w0.heap.size ≤ w.heap.size) (hP : w.heap.size ≤ P) (hRP : ¬ R = P) {v v' : Value} {T : TypeId} (hv : wr.heap[P]? = some (.cells #[.int .i64 m, v] 27 (0, 0)))
    (ho : wr.ownsRow w.heap.size 83 2 v l.length (roC l)) (ho' : w'.ownsRow w.heap.size 83 2 v' l'.length (roC l')) (hg : wr.grownBy w' v.ownBlock) : w'.heap[P]? = some (.cells #[.int .i64 m, v] 27 (0, 0)) ∧ DrSt w0 a len cap b w (w'.setCell ⟨P, 1, none⟩ v') P R m l' := by
  have hv' : w'.heap[P]? = some (.cells #[.int .i64 m, v] 27 (0, 0)) := (hg.block P (lt_of_heap hv) (fun e => own_ne_table ho hv e.symm)).trans hv
  have hR' : w'.heap[R]? = some (.cells #[.int .i64 0, .slice none 0 0] 27 (0, 0)) := (hg.block R (lt_of_heap h.r) (fun e => own_ne_table ho h.r e.symm)).trans h.r
  have hC' : Cur w0 a len cap b w' := h.c.grown hg (fun e => own_ne_cur ho h.c e.symm) (fun k e => Nat.le_trans h0 (ho.lt k e).1)
  have hG' : w.grownBy w' (some b) := ⟨hg.os.trans h.g.os, hg.tape.trans h.g.tape, hg.output.trans h.g.output, Nat.le_trans h.g.size hg.size, fun i hi hr => (hg.block i (Nat.lt_of_lt_of_le hi h.g.size) (fun e => by have := (ho.lt i e.symm).1; omega)).trans (h.g.block i hi hr)⟩
  have hk : u_KeepB (fun k => k = P) w' (w'.setCell ⟨P, 1, none⟩ v') := u_KeepB.of_set (p := fun k => k = P) w' 1 v' rfl
  refine ⟨hv', ⟨v', ?_, u_own_set ho' (own_ne_table ho' hv') _ _⟩, hC'.keepU hk (hC'.tableNe hv') (Nat.le_trans h0 hP), gr_keep hG' hk hP, (hk.block R (lt_of_heap hR') hRP).trans hR'⟩
  have := u_heap_set (i := 1) hv' v'
  simpa using this

theorem drawV {w0 w w1 : World} {a : Option Addr} {len cap b B P : Nat} {m : Int} {l : List Ro} {v : Value} (h1 : w.heap[P]? = some (.cells #[.int .i64 m, v] 27 (0, 0))) (h2 : w.ownsRow B 83 2 v l.length (roC l)) (hC : Cur w0 a len cap b w) (hg : w.grownBy w1 (some b)) :
    w1.heap[P]? = some (.cells #[.int .i64 m, v] 27 (0, 0)) ∧ w1.ownsRow B 83 2 v l.length (roC l) := by
  refine ⟨blk_draw h1 hg (hC.tableNe h1), ?_⟩
  obtain ⟨_, _, i, x, _, _, hh⟩ := hC
  rcases h2.2 with h3 | ⟨g, cp, cur, rfl, k1, k2, k3⟩
  · exact ⟨h2.1, .inl h3⟩
  · have hgb : ¬ g = b := fun e => by
      subst e
      rw [k2] at hh
      injection hh with hh
      injection hh with _ ht
      exact absurd ht (by decide)
    exact ⟨h2.1, .inr ⟨g, cp, cur, rfl, k1, (hg.block g (lt_of_heap k2) (fun e => hgb (Option.some.inj e))).trans k2, k3⟩⟩

def zzT (y : Nat) : Int := if y = 0 then -1 else if y = 1 then 3155760000 else 3

theorem zzT_cell {W : World} {h y : Nat} (hh : W.heap[h]? = some (.cells #[.int .i64 (-1), .int .i64 3155760000, .int .i64 3] 2 (0, 0))) (hy : y < 3) : W.cell? ⟨h, y, none⟩ = some (.int .i64 (zzT y)) := by
  have hy3 : y = 0 ∨ y = 1 ∨ y = 2 := by omega
  rw [Lib.cell_of_heap hh]
  rcases hy3 with rfl | rfl | rfl <;> rfl

set_option maxRecDepth 8000 in
/-- One row more behind all, as a run. -/
theorem draw_app {w0 : World} {a : Option Addr} {len cap b : Nat} {w W : World} {P R : Nat} {m : Int} {l : List Ro} {v : Value} (x : Ro) (hS : DrSt w0 a len cap b w W P R m l) (h0 : w0.heap.size ≤ w.heap.size) (hP : w.heap.size ≤ P) (hRP : ¬ R = P)
    (hv : W.heap[P]? = some (.cells #[.int .i64 m, v] 27 (0, 0))) (ho : W.ownsRow w.heap.size 83 2 v l.length (roC l)) (hl : l.length ≤ 5) :
    ∃ a8 c8 w8, (Builtin.append_ #[25, 25] 25 #[v, .slice (some ⟨W.heap.size, 0, none⟩) 1 1]).run Tryz.prog (W.alloc (.cells #[.string x.id, .int .i64 x.til] 83)) = .ok (.slice a8 (l.length + 1) c8) w8
      ∧ w8.heap[P]? = some (.cells #[.int .i64 m, v] 27 (0, 0)) ∧ DrSt w0 a len cap b w (w8.setCell ⟨P, 1, none⟩ (.slice a8 (l.length + 1) c8)) P R m (l ++ [x]) := by
  obtain ⟨i0, hi0, hz0, hz1, hz2⟩ := info_parts infoRoW
  have hb := (Below.refl W.heap.size W).alloc (Nat.le_refl _) (.cells #[.string x.id, .int .i64 x.til] 83)
  have hS6 := hS.below hb
  have hv6 := u_blk_below hv hb
  have ho6 := ownsRow_below ho hb
  obtain ⟨b', o', c', e', _, _, h4⟩ := (u_Rd.new W 83 2 (roC [x]) 1 rfl).at_
  cases e'
  obtain ⟨v8, w8, hrun, r1, r2, _, _⟩ := run_append_own_at (P := Tryz.prog) (W.alloc (.cells #[.string x.id, .int .i64 x.til] 83)) w.heap.size 25 25 83 i0 _ 2 24 Tryz.underlying25 hi0 hz0 hz1 hz2 rfl (by decide) v l.length (roC l) ho6 ⟨W.heap.size, 0, none⟩ 1 1 (roC [x]) rfl (fun j u hj => by rw [u_add_plainW]; exact h4 j u hj) (roC_one _) (by unfold maxLen; omega) (by omega) hS6.g.size
  have hlen : (l ++ [x]).length = l.length + 1 := by simp
  have hro : roC (l ++ [x]) = roC l ++ roC [x] := roC_app _ _
  obtain ⟨k1, k2⟩ := hS6.more h0 hP hRP (v' := v8) (l' := l ++ [x]) (T := 0) hv6 ho6 (by rw [hlen, hro]; exact r1) r2
  obtain ⟨a8, c8, rfl⟩ := u_own_len r1
  exact ⟨a8, c8, w8, hrun, k1, k2⟩

set_option maxRecDepth 8000 in
set_option maxHeartbeats 16000000 in
theorem cDrawTb (w0 : World) (a : Option Addr) (len cap b : Nat) (w : World) (hlen : len ≤ 4096) (hcr : CodeRow w0 a len) (hC : Cur w0 a len cap b w) :
    Calls Tryz.prog 60 #[.pointer (some ⟨b, 0, none⟩)] w (DrawPost w0 a len cap b w) := by
  have HCR := hid hcr
  have h0 := hC.size
  have HC0 := hid (hC.alloc (.cells #[.int .i64 0, .slice none 0 0] 27))
  have HR0 := hid (heap_alloc_new w (.cells #[.int .i64 0, .slice none 0 0] 27))
  have HG0 := hid (World.grownBy_alloc w (.cells #[.int .i64 0, .slice none 0 0] 27) (some b))
  clear hcr hC
  go_enter Tryz.func60, Tryz.ntmps60
  go_wp2_with fail
  obtain ⟨W, hW⟩ : ∃ W, w.alloc (.cells #[.int .i64 0, .slice none 0 0] 27) = W := ⟨_, rfl⟩
  rw [hW] at HC0 HR0 HG0 ⊢
  clear hW
  obtain ⟨R, hR⟩ : ∃ R, w.heap.size = R := ⟨_, rfl⟩
  rw [hR] at HR0 ⊢
  have HRw := hid (show w.heap.size ≤ R by omega)
  refine (cBelow 4 w0 a len cap b _ hlen HCR.out HC0.out (by decide) (by decide)).mono ?_
  rintro e w1 ⟨x, rfl, hx, hC1, hg1⟩
  have HC1 := hid hC1
  have HG1 := hid (gtrans HG0.out hg1)
  have HR1 := hid (blk_draw HR0.out hg1 (HC0.out.tableNe HR0.out))
  clear hC1 hg1 HC0 HR0 HG0
  obtain ⟨m, hm⟩ : ∃ m : Int, (1 : Int) + (x : Int) = m := ⟨_, rfl⟩
  have hm1 : IntKind.i64.wrap m = m := IntWalk.i64_in _ (by omega)
  have CN := hid (fun wx => cNewTableS m wx)
  rw [newT_t (show mostB m = true by unfold mostB; exact decide_eq_true (by omega))] at CN
  have hm0 : ¬ (0 : Int) = m := by omega
  simp only [tbV, List.length_nil] at CN
  have HMM := hid hm0
  clear hx hm0
  go_wp2_with fail
  refine (CN.out _).mono ?_
  rintro e w2 ⟨rfl, hb2⟩
  have HZ := hid ((Below.refl w2.heap.size w2).alloc (Nat.le_refl _) (.cells #[.int .i64 m, .slice none 0 0] 27))
  have HP2 := hid (heap_alloc_new w2 (.cells #[.int .i64 m, .slice none 0 0] 27))
  have HC2 := hid ((HC1.out.below hb2).alloc (.cells #[.int .i64 m, .slice none 0 0] 27))
  have HG2 := hid (u_gr_below HG1.out (bb hb2 HZ.out))
  have HR2 := hid (u_blk_below (u_blk_below HR1.out hb2) HZ.out)
  have HPw := hid (show w.heap.size ≤ w2.heap.size from Nat.le_trans HG1.out.size hb2.size)
  have HRP := hid (show R < w2.heap.size from lt_of_heap (u_blk_below HR1.out hb2))
  clear hb2 HC1 HG1 HR1 CN
  go_wp2_with fail
  obtain ⟨W2, hW2⟩ : ∃ W, w2.alloc (.cells #[.int .i64 m, .slice none 0 0] 27) = W := ⟨_, rfl⟩
  rw [hW2] at HZ HP2 HC2 HR2 HG2
  simp only [hW2]
  clear hW2
  obtain ⟨P, hP⟩ : ∃ P, w2.heap.size = P := ⟨_, rfl⟩
  rw [hP] at HP2 HPw HRP
  simp only [hP]
  clear hP HZ
  refine (cBelow 6 w0 a len cap b _ hlen HCR.out HC2.out (by decide) (by decide)).mono ?_
  rintro e w3 ⟨n, rfl, hn, hC3, hg3⟩
  have HT3 := hid (show TbD w3 w.heap.size P m [] from TbD.draw ⟨_, HP2.out, World.ownsRow_nil _ _ _ _⟩ HC2.out hg3)
  have HC3 := hid hC3
  have HG3 := hid (gtrans HG2.out hg3)
  have HR3 := hid (blk_draw HR2.out hg3 (HC2.out.tableNe HR2.out))
  clear hC3 hg3 HC2 HG2 HR2 HP2
  go_wp2_with fail
  go_loopw [5] (fun v wr => ∃ (k : Nat) (l : List Ro), v = .int .i64 (k : Int) ∧ k ≤ 5 ∧ Hid (l.length + k ≤ 5) ∧ Hid (RoSz 10 l) ∧ Hid (TbD wr w.heap.size P m l) ∧ Hid (Cur w0 a len cap b wr) ∧ Hid (w.grownBy wr (some b)) ∧ Hid (wr.heap[R]? = some (.cells #[.int .i64 0, .slice none 0 0] 27 (0, 0)))) (fun v _ => (intOf v).toNat)
  case atStart => exact ⟨n, [], rfl, by omega, by show 0 + n ≤ 5; omega, fun x hx => (List.not_mem_nil hx).elim, HT3.out, HC3.out, HG3.out, HR3.out⟩
  case round =>
    clear HT3 HC3 HG3 HR3 hn
    obtain ⟨k, l, rfl, hk, HL, HZ, HT, HC, HG, HR⟩ := hrel
    by_cases hk0 : k = 0
    case neg =>
      have hkp : (0 : Int) < (k : Int) := by omega
      obtain ⟨k', hk'⟩ : ∃ k', k = k' + 1 := ⟨k - 1, by omega⟩
      have hk1 : (k : Int) - 1 = (k' : Int) := by omega
      have hk2 : IntKind.i64.wrap (k' : Int) = (k' : Int) := IntWalk.i64_in _ (by omega)
      have HKK := hid hk'
      clear hk' hk0
      go_wp2_with fail
      refine (cText ⟨#[49, 50, 51]⟩ 3 w0 a len cap b _ (by decide) (by decide) (by decide) (by decide) hlen HCR.out HC.out).mono ?_
      rintro e w4 ⟨t, rfl, ht, hC4, hg4⟩
      have HT4 := hid (HT.out.draw HC.out hg4)
      have HC4 := hid hC4
      have HG4 := hid (gtrans HG.out hg4)
      have HR4 := hid (blk_draw HR.out hg4 (HC.out.tableNe HR.out))
      have HID := hid (show ((⟨#[114]⟩ : ByteArray) ++ t).size ≤ 10 by rw [ByteArray.size_append]; show 1 + t.size ≤ 10; omega)
      have hsz : ¬ 9223372036854775807 < (⟨#[114]⟩ : ByteArray).size + t.size := by show ¬ 9223372036854775807 < 1 + t.size; omega
      obtain ⟨id, hid'⟩ : ∃ id, (⟨#[114]⟩ : ByteArray) ++ t = id := ⟨_, rfl⟩
      rw [hid'] at HID
      clear hC4 hg4 HC HG HR HT ht
      go_wp2_with fail
      refine (cBelow 100 w0 a len cap b _ hlen HCR.out HC4.out (by decide) (by decide)).mono ?_
      rintro e w5 ⟨u, rfl, hu, hC5, hg5⟩
      have HT5 := hid (HT4.out.draw HC4.out hg5)
      have HC5 := hid hC5
      have HG5 := hid (gtrans HG4.out hg5)
      have HR5 := hid (blk_draw HR4.out hg5 (HC4.out.tableNe HR4.out))
      clear hC5 hg5 HC4 HG4 HR4 HT4 hu hid' hsz
      go_wp2_with fail
      refine (cEnterD P w.heap.size m l id (u : Int) w5 HT5.out (by have := HL.out; omega) HZ.out HID.out HG5.out.size HMM.out).mono ?_
      rintro e w6 ⟨x6, l6, rfl, hT6, hl6, hz6, hk6⟩
      obtain ⟨v5, hv5, _⟩ := HT5.out
      have HT6 := hid hT6
      have HC6 := hid (HC5.out.keepU hk6 (HC5.out.tableNe hv5) (Nat.le_trans h0 HPw.out))
      have HG6 := hid (gr_keep HG5.out hk6 HPw.out)
      have HR6 := hid ((hk6.block R (lt_of_heap HR5.out) (fun e => by have := HRP.out; omega)).trans HR5.out)
      have HZ6 := hid hz6
      have HL6 := hid (show l6.length + k' ≤ 5 by have h1 := HL.out; have h2 := HKK.out; omega)
      have HK5 := hid (show k' ≤ 5 by have h2 := HKK.out; omega)
      clear hT6 hk6 HT5 HC5 HG5 HR5 hz6 hl6 hv5
      go_wp2_with fail
      go_roundw
      case rel => exact ⟨k', l6, by go_num, HK5.out, HL6.out, HZ6.out, HT6.out, HC6.out, HG6.out, HR6.out⟩
      case measure => simp [intOf]; have := HKK.out; omega
    subst hk0
    have HL5 := hid (show l.length ≤ 5 from HL.out)
    clear HL hk
    go_wp2_with fail
    refine (cOnce 10 w0 a len cap b _ hlen HCR.out HC.out (by decide) (by decide)).mono ?_
    rintro e w4 ⟨y, rfl, hC4, hg4⟩
    have HT4 := hid (HT.out.draw HC.out hg4)
    have HC4 := hid hC4
    have HG4 := hid (gtrans HG.out hg4)
    have HR4 := hid (blk_draw HR.out hg4 (HC.out.tableNe HR.out))
    clear hC4 hg4 HC HG HR HT
    cases y with
    | false =>
      obtain ⟨v, hv, ho⟩ := HT4.out
      obtain ⟨a', c', rfl⟩ := u_own_len ho
      have HE := hid (draw_end hv ho HR4.out HRw.out (Nat.le_succ_of_le HL5.out) HZ.out HC4.out HG4.out h0)
      obtain ⟨⟨p0, p1⟩, p2, p3⟩ := u_box2f hv
      obtain ⟨⟨r0, r1⟩, r2, r3⟩ := u_box2f HR4.out
      clear hv ho
      generalize hln : l.length = ln at *
      go_wp2_with fail
      refine bodyPost_ret (v := tbV ⟨m, l⟩ a' c') (by simp [results, Tryz.results60, go_sem, r0, r1, tbV, hln]) rfl HE.out
    | true =>
      have HS4 := hid (DrSt.mk HT4.out HC4.out HG4.out HR4.out)
      have hRP : ¬ R = P := by have := HRP.out; omega
      have HL6 := hid (show l.length ≤ 5 from HL5.out)
      clear HT4 HC4 HG4 HR4 HL5
      go_wp2_with fail
      refine (cBelow 3 w0 a len cap b _ hlen HCR.out HS4.out.c (by decide) (by decide)).mono ?_
      rintro e w5 ⟨q, rfl, hq, hC5, hg5⟩
      have HS5 := hid (HS4.out.draw hC5 hg5)
      clear hC5 hg5 HS4
      have hq3 : q = 0 ∨ q = 1 ∨ q = 2 := by omega
      rcases hq3 with rfl | rfl | rfl
      · have HB6 := hid ((Below.refl w5.heap.size w5).alloc (Nat.le_refl _) (.cells #[.int .i64 0, .int .i64 20, .int .i64 21] 2))
        have HS6 := hid (HS5.out.below HB6.out)
        have HI6 := hid (heap_alloc_new w5 (.cells #[.int .i64 0, .int .i64 20, .int .i64 21] 2))
        have HbI := hid (show ¬ b = w5.heap.size from fun e => by have := HS5.out.c.lt; omega)
        clear HS5 hq
        go_wp2_with fail
        refine (cBelow 3 w0 a len cap b _ hlen HCR.out HS6.out.c (by decide) (by decide)).mono ?_
        rintro e w7 ⟨y, rfl, hy, hC7, hg7⟩
        have HS7 := hid (HS6.out.draw hC7 hg7)
        have HI7 := hid (blk_draw HI6.out hg7 HbI.out)
        clear hC7 hg7 HS6 HI6 HB6
        have hyz : ∃ z : Int, w7.cell? ⟨w5.heap.size, y, none⟩ = some (.int .i64 z) := by
          have hy3 : y = 0 ∨ y = 1 ∨ y = 2 := by omega
          rw [Lib.cell_of_heap HI7.out]
          rcases hy3 with rfl | rfl | rfl
          · exact ⟨0, rfl⟩
          · exact ⟨20, rfl⟩
          · exact ⟨21, rfl⟩
        obtain ⟨z, hz7⟩ := hyz
        have hy3 : (y : Int) < 3 := by omega
        obtain ⟨v, hv, ho⟩ := HS7.out.t
        have HS8 := hid (HS7.out.set0 h0 HPw.out hRP z)
        obtain ⟨⟨p0, p1⟩, p2, p3⟩ := u_box2f hv
        clear hv ho hy HI7 HbI
        obtain ⟨v8, hv8, ho8⟩ := HS8.out.t
        obtain ⟨a', c', rfl⟩ := u_own_len ho8
        have HE := hid (draw_end hv8 ho8 HS8.out.r HRw.out (Nat.le_succ_of_le HL6.out) HZ.out HS8.out.c HS8.out.g h0)
        obtain ⟨⟨s0, s1⟩, s2, s3⟩ := u_box2f hv8
        obtain ⟨⟨r0, r1⟩, r2, r3⟩ := u_box2f HS8.out.r
        clear hv8 ho8
        generalize hln : l.length = ln at *
        go_wp2_with fail
        refine bodyPost_ret (v := tbV ⟨z, l⟩ a' c') (by simp [results, Tryz.results60, go_sem, r0, r1, tbV, hln]) rfl HE.out
      · obtain ⟨i0, hi0, hz0, hz1, hz2⟩ := info_parts infoRoW
        have HI := hid (And.intro hi0 (And.intro hz0 (And.intro hz1 hz2)))
        have HB6 := hid ((Below.refl w5.heap.size w5).alloc (Nat.le_refl _) (.cells #[.string ⟨#[97]⟩, .int .i64 5] 83))
        have HS6 := hid (HS5.out.below HB6.out)
        have HN6 := hid (u_Rd.new w5 83 2 (roC [⟨⟨#[97]⟩, 5⟩]) 1 rfl)
        obtain ⟨v, hv, ho⟩ := HS5.out.t
        have HV := hid (u_blk_below hv HB6.out)
        have HO := hid (ownsRow_below ho HB6.out)
        obtain ⟨⟨p0, p1⟩, p2, p3⟩ := u_box2f hv
        have HRS := hid (show roC (l ++ [⟨⟨#[97]⟩, 5⟩]) = roC l ++ roC [⟨⟨#[97]⟩, 5⟩] from roC_app _ _)
        have HWS := hid (show w.heap.size ≤ (w5.alloc (.cells #[.string ⟨#[97]⟩, .int .i64 5] 83)).heap.size from HS6.out.g.size)
        have HZ8 := hid (show RoSz 10 (l ++ [⟨⟨#[97]⟩, 5⟩]) from fun x hx => by
          rcases List.mem_append.1 hx with h1 | h1
          · exact HZ.out x h1
          · rw [List.mem_singleton.1 h1]; show (1 : Nat) ≤ 10; decide)
        have HL8 := hid (show (l ++ [(⟨⟨#[97]⟩, 5⟩ : Ro)]).length = l.length + 1 by simp)
        clear hi0 hz0 hz1 hz2 hv ho HS5 hq HB6
        go_wp2_with (at_builtin; refine u_stopW ?_)
        refine u_stopX ?_
        refine wpList_append_own_at _ rfl _ _ 25 rfl w.heap.size 83 i0 _ 2 24 Tryz.underlying25 HI.out.1 HI.out.2.1 HI.out.2.2.1 HI.out.2.2.2 rfl (by decide) v l.length (roC l) rfl HO.out ⟨w5.heap.size, 0, none⟩ 1 1 (roC [⟨⟨#[97]⟩, 5⟩]) rfl rfl (fun j u hj => by obtain ⟨b', o', c', e', _, _, h4⟩ := HN6.out.at_; cases e'; rw [u_add_plainW]; exact h4 j u hj) (roC_one _) (by have := HL6.out; unfold maxLen; omega) (by have := HL6.out; omega) HWS.out ?_
        intro v8 w8 ho8 hg8 _ _
        obtain ⟨hv8, hs8⟩ := HS6.out.more h0 HPw.out hRP (v' := v8) (l' := l ++ [⟨⟨#[97]⟩, 5⟩]) (T := 0) HV.out HO.out (by rw [HL8.out, HRS.out]; exact ho8) hg8
        obtain ⟨a', c', rfl⟩ := u_own_len ho8
        have HS9 := hid hs8
        obtain ⟨⟨q0, q1⟩, q2, q3⟩ := u_box2f hv8
        clear ho8 hg8 hv8 hs8 HS6 HN6 HV HO HRS p0 p1 p2 p3
        obtain ⟨v9, hv9, ho9⟩ := HS9.out.t
        obtain ⟨a9, c9, rfl⟩ := u_own_len ho9
        have HE := hid (draw_end hv9 ho9 HS9.out.r HRw.out (by rw [HL8.out]; have := HL6.out; omega) HZ8.out HS9.out.c HS9.out.g h0)
        obtain ⟨⟨s0, s1⟩, s2, s3⟩ := u_box2f hv9
        obtain ⟨⟨r0, r1⟩, r2, r3⟩ := u_box2f HS9.out.r
        clear hv9 ho9
        rw [HL8.out] at s1 HE
        have HL9 := hid HL8.out
        generalize l.length = ln at *
        go_wp2_with fail
        refine bodyPost_ret (v := tbV ⟨m, l ++ [⟨⟨#[97]⟩, 5⟩]⟩ a9 c9) (by simp only [tbV]; rw [HL9.out]; simp [results, Tryz.results60, go_sem, r0, r1]) rfl HE.out
      · have HSd := hid (HS5.out.below ((Below.refl w5.heap.size w5).drew))
        have HBa := hid ((Below.refl w5.drew.heap.size w5.drew).alloc (Nat.le_refl _) (.cells #[.int .i64 (-1), .int .i64 3155760000, .int .i64 3] 2))
        have HSa := hid (HSd.out.below HBa.out)
        have HIa := hid (heap_alloc_new w5.drew (.cells #[.int .i64 (-1), .int .i64 3155760000, .int .i64 3] 2))
        have HbI := hid (show ¬ b = w5.drew.heap.size from fun e => by have := HSd.out.c.lt; omega)
        obtain ⟨v, hv5, ho5⟩ := HS5.out.t
        have HVd := hid (u_blk_below hv5 ((Below.refl w5.heap.size w5).drew))
        have HOd := hid (ownsRow_below ho5 ((Below.refl w5.heap.size w5).drew))
        have HVa := hid (u_blk_below HVd.out HBa.out)
        have HOa := hid (ownsRow_below HOd.out HBa.out)
        obtain ⟨⟨p0, p1⟩, p2, p3⟩ := u_box2f HVd.out
        obtain ⟨⟨q0, q1⟩, q2, q3⟩ := u_box2f HVa.out
        obtain ⟨⟨d0, d1⟩, d2, d3⟩ := u_box2f (u_blk_below hv5 ((Below.refl w5.heap.size w5).alloc (Nat.le_refl _) (.cells #[.int .i64 (-1), .int .i64 3155760000, .int .i64 3] 2)))
        have HZ8 := hid (show ∀ Z : Int, RoSz 10 (l ++ [⟨⟨#[122, 122]⟩, Z⟩]) from fun Z x hx => by
          rcases List.mem_append.1 hx with h1 | h1
          · exact HZ.out x h1
          · rw [List.mem_singleton.1 h1]; show (2 : Nat) ≤ 10; decide)
        have HL8 := hid (show ∀ Z : Int, (l ++ [(⟨⟨#[122, 122]⟩, Z⟩ : Ro)]).length = l.length + 1 from fun Z => by simp)
        clear hv5 ho5 HS5 hq
        go_wp2_with fail
        go_region_law (first
          | (go_simp; go_at_call 25; refine (cBelow 3 w0 a len cap b _ hlen HCR.out (by first | exact HSd.out.c | exact HSa.out.c) (by decide) (by decide)).mono ?_; rintro e w7 ⟨y, rfl, hy, hC7, hg7⟩
             first
              | (have HS7 := hid (HSd.out.draw hC7 hg7); have HVO := hid (drawV HVd.out HOd.out HSd.out.c hg7))
              | (have HS7 := hid (HSa.out.draw hC7 hg7); have HVO := hid (drawV HVa.out HOa.out HSa.out.c hg7); have zc := (show w7.cell? ⟨w5.heap.size, y, none⟩ = some (.int .i64 (zzT y)) from zzT_cell (blk_draw HIa.out hg7 HbI.out) hy))
             obtain ⟨⟨r0, r1⟩, r2, r3⟩ := u_box2f HVO.out.1
             have HB8 := hid ((Below.refl w7.heap.size w7).alloc (Nat.le_refl _) (.cells #[.int .i64 (-1), .int .i64 3155760000, .int .i64 3] 2))
             have HS8 := hid (HS7.out.below HB8.out)
             have HV8 := hid (u_blk_below HVO.out.1 HB8.out)
             have HO8 := hid (ownsRow_below HVO.out.2 HB8.out)
             obtain ⟨⟨s0, s1⟩, s2, s3⟩ := u_box2f HV8.out
             have zd := zzT_cell (heap_alloc_new w7 (.cells #[.int .i64 (-1), .int .i64 3155760000, .int .i64 3] 2)) hy
             have hy3 : (y : Int) < 3 := by omega
             generalize zzT y = Z at *
             obtain ⟨⟨x0, x1⟩, x2, x3⟩ := u_box2f (u_blk_below HVO.out.1 ((Below.refl w7.heap.size w7).alloc (Nat.le_refl _) (.cells #[.string ⟨#[122, 122]⟩, .int .i64 Z] 83)))
             obtain ⟨⟨y0, y1⟩, y2, y3⟩ := u_box2f (u_blk_below HVO.out.1 (HB8.out.alloc HB8.out.size (.cells #[.string ⟨#[122, 122]⟩, .int .i64 Z] 83)))
             clear hC7 hg7)
          | (first
              | (obtain ⟨a9, c9, w9, hrun, hv9, hs9⟩ := draw_app ⟨⟨#[122, 122]⟩, Z⟩ HS7.out h0 HPw.out hRP HVO.out.1 HVO.out.2 HL6.out; refine u_step_app rfl (.tmp 48) (.tmp 55) 25 25 rfl v (.slice (some ⟨w7.heap.size, 0, none⟩) 1 1) (by simp [Act.eval, Act.put]) (by simp [Act.eval, Act.put]) hrun ?_)
              | (obtain ⟨a9, c9, w9, hrun, hv9, hs9⟩ := draw_app ⟨⟨#[122, 122]⟩, Z⟩ HS8.out h0 HPw.out hRP HV8.out HO8.out HL6.out; refine u_step_app rfl (.tmp 48) (.tmp 55) 25 25 rfl v (.slice (some ⟨(w7.alloc (.cells #[.int .i64 (-1), .int .i64 3155760000, .int .i64 3] 2)).heap.size, 0, none⟩) 1 1) (by simp [Act.eval, Act.put]) (by simp [Act.eval, Act.put]) hrun ?_)
             have HS9 := hid hs9
             obtain ⟨⟨t0, t1⟩, t2, t3⟩ := u_box2f hv9
             clear hrun hs9))
        all_goals
          obtain ⟨v10, hv10, ho10⟩ := HS9.out.t
          obtain ⟨a10, c10, rfl⟩ := u_own_len ho10
          have HE := hid (draw_end hv10 ho10 HS9.out.r HRw.out (by rw [HL8.out]; have := HL6.out; omega) (HZ8.out Z) HS9.out.c HS9.out.g h0)
          obtain ⟨⟨s0, s1⟩, s2, s3⟩ := u_box2f hv10
          obtain ⟨⟨r0, r1⟩, r2, r3⟩ := u_box2f HS9.out.r
          have HL9 := hid (HL8.out Z)
          rw [HL9.out] at s1 HE
          clear hv10 ho10 HL8
          generalize l.length = ln at *
          go_wp2_with fail
          refine bodyPost_ret (v := tbV ⟨m, l ++ [⟨⟨#[122, 122]⟩, Z⟩]⟩ a10 c10) (by simp only [tbV]; rw [HL9.out]; simp [results, Tryz.results60, go_sem, r0, r1]) rfl HE.out

end Go.Proofs.YtgdfeicojgnoaaaGreatDoor
