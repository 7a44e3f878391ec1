/- Gates as mathematics. Contracts of the specification's TableOk, l16Find, Holds, NewTable. The library contracts that the proofs lean on, laid at this program: a field a fact of the program, each contract one application. -/
import Derived.Test.YtgdfeicojgnoaaaGreatDoorM4
import Derived.Test.YtgdfeicojgnoaaaGreatDoorProg
import Derived.Shelf.Small.Strs
namespace Go.Proofs.YtgdfeicojgnoaaaGreatDoor
open Go.RowKit
set_option linter.unusedVariables false
set_option linter.unusedSimpArgs false

/-- A hand. -/
structure Hd where
  iss : ByteArray
  n : Int
  e : Int
  d : Int

/-- A gate. -/
structure Gt where
  name : ByteArray
  hands : List Hd
  skew : Int
  now : Int
  ask : Tb
  hrd : Tb

/-- Hands that can be read. -/
def HdRow (w : World) (a : Option Addr) (l : List Hd) : Prop :=
  ∀ j (h : j < l.length), ∃ b o, a = some ⟨b, o, none⟩ ∧ b < w.heap.size ∧ w.cell? ⟨b, o + j * 4, none⟩ = some (.string l[j].iss) ∧ w.cell? ⟨b, o + j * 4 + 1, none⟩ = some (.int .i64 l[j].n) ∧ w.cell? ⟨b, o + j * 4 + 2, none⟩ = some (.int .i64 l[j].e) ∧ w.cell? ⟨b, o + j * 4 + 3, none⟩ = some (.int .i64 l[j].d)

theorem HdRow.below {w w' : World} {a : Option Addr} {l : List Hd} (h : HdRow w a l) (hb : Below w.heap.size w w') : HdRow w' a l := by
  intro j hj
  obtain ⟨b, o, ha, hlt, c0, c1, c2, c3⟩ := h j hj
  exact ⟨b, o, ha, Nat.lt_of_lt_of_le hlt hb.size, (hb.cell (p := ⟨b, o + j * 4, none⟩) hlt).trans c0, (hb.cell (p := ⟨b, o + j * 4 + 1, none⟩) hlt).trans c1, (hb.cell (p := ⟨b, o + j * 4 + 2, none⟩) hlt).trans c2, (hb.cell (p := ⟨b, o + j * 4 + 3, none⟩) hlt).trans c3⟩

theorem HdRow.nil (w : World) (a : Option Addr) : HdRow w a [] := fun j h => absurd h (Nat.not_lt_zero j)

/-- Cells that hold hands. -/
def HdCells (cu : Array Value) (o : Nat) (l : List Hd) : Prop := ∀ m (h : m < l.length), cu[o + m * 4]? = some (.string l[m].iss) ∧ cu[o + m * 4 + 1]? = some (.int .i64 l[m].n) ∧ cu[o + m * 4 + 2]? = some (.int .i64 l[m].e) ∧ cu[o + m * 4 + 3]? = some (.int .i64 l[m].d)

theorem HdCells.row {w : World} {g o : Nat} {cu : Array Value} {T : TypeId} {l : List Hd} (h : HdCells cu o l) (hh : w.heap[g]? = some (.cells cu T (0, 0))) : HdRow w (some ⟨g, o, none⟩) l := fun j hj =>
  ⟨g, o, rfl, lt_of_heap hh, by rw [Lib.cell_of_heap hh]; exact (h j hj).1, by rw [Lib.cell_of_heap hh]; exact (h j hj).2.1, by rw [Lib.cell_of_heap hh]; exact (h j hj).2.2.1, by rw [Lib.cell_of_heap hh]; exact (h j hj).2.2.2⟩

/-- Issuers of at most so many bytes. -/
def HdSz (n : Nat) (l : List Hd) : Prop := ∀ x ∈ l, x.iss.size ≤ n

theorem HdSz.mono {n m : Nat} {l : List Hd} (h : HdSz n l) (hm : n ≤ m) : HdSz m l := fun x hx => Nat.le_trans (h x hx) hm

/-- A right hand. -/
def handB (h : Hd) : Bool := g_wordB h.iss && g_okB h.n h.e h.d && decide (h.d = 0)

/-- The hand there is right, and no one ahead has its issuer. -/
def HandAt (l : List Hd) (i : Nat) (h : i < l.length) : Prop := handB l[i] = true ∧ ∀ (k : Nat) (hk : k < i), ¬ (l[k]'(by omega)).iss = l[i].iss

def HandsP (l : List Hd) (n : Nat) : Prop := ∀ i (h : i < l.length), i < n → HandAt l i h

open Classical in
noncomputable def handsB (l : List Hd) : Bool := decide (l.length ≤ 4) && decide (HandsP l l.length)

theorem HandsP.zero (l : List Hd) : HandsP l 0 := fun i _ h => absurd h (Nat.not_lt_zero i)

theorem HandsP.step {l : List Hd} {n : Nat} (h : HandsP l n) (hn : n < l.length) (ha : HandAt l n hn) : HandsP l (n + 1) := fun i hi hin => by
  rcases Nat.lt_or_ge i n with q | q
  · exact h i hi q
  · obtain rfl : i = n := by omega
    exact ha

theorem handsB_t {l : List Hd} (h4 : l.length ≤ 4) (h : HandsP l l.length) : handsB l = true := by
  unfold handsB
  simp [h4, h]

theorem handsB_4 {l : List Hd} (h4 : ¬ l.length ≤ 4) : handsB l = false := by
  unfold handsB
  simp [h4]

theorem handsB_f {l : List Hd} {i : Nat} (hi : i < l.length) (h : ¬ HandAt l i hi) : handsB l = false := by
  have h2 : ¬ HandsP l l.length := fun hp => h (hp i hi hi)
  unfold handsB
  simp [h2]

theorem handsB_p {l : List Hd} (h : handsB l = true) : l.length ≤ 4 ∧ HandsP l l.length := by
  unfold handsB at h
  simp only [Bool.and_eq_true, decide_eq_true_eq] at h
  exact h

/-- Is the gate right? -/
noncomputable def gateB (g : Gt) : Bool := g_wordB g.name && (handsB g.hands && (g_skB g.skew && (utmB g.now && (tableB g.ask && tableB g.hrd))))

def zeroG : Gt := ⟨ByteArray.empty, [], 0, 0, zeroT, zeroT⟩

/-- A gate as a value. -/
def gtV (g : Gt) (ah : Option Addr) (ch : Nat) (aa : Option Addr) (ca : Nat) (ar : Option Addr) (cr : Nat) : Value :=
  .agg #[.string g.name, .slice ah g.hands.length ch, .int .i64 g.skew, .int .i64 g.now, .int .i64 g.ask.most, .slice aa g.ask.rows.length ca, .int .i64 g.hrd.most, .slice ar g.hrd.rows.length cr]

/-- What lies in a gate's box. -/
structure GtBox (w : World) (B : Nat) (x : ByteArray) (vh : Value) (sk nw am : Int) (va : Value) (hm : Int) (vr : Value) : Prop where
  lt : B < w.heap.size
  c0 : w.cell? ⟨B, 0, none⟩ = some (.string x)
  c1 : w.cell? ⟨B, 1, none⟩ = some vh
  c2 : w.cell? ⟨B, 2, none⟩ = some (.int .i64 sk)
  c3 : w.cell? ⟨B, 3, none⟩ = some (.int .i64 nw)
  c4 : w.cell? ⟨B, 4, none⟩ = some (.int .i64 am)
  c5 : w.cell? ⟨B, 5, none⟩ = some va
  c6 : w.cell? ⟨B, 6, none⟩ = some (.int .i64 hm)
  c7 : w.cell? ⟨B, 7, none⟩ = some vr

theorem GtBox.below {w w' : World} {B : Nat} {x : ByteArray} {vh : Value} {sk nw am : Int} {va : Value} {hm : Int} {vr : Value} (h : GtBox w B x vh sk nw am va hm vr) (hb : Below w.heap.size w w') : GtBox w' B x vh sk nw am va hm vr :=
  ⟨Nat.lt_of_lt_of_le h.lt hb.size, (hb.cell h.lt).trans h.c0, (hb.cell h.lt).trans h.c1, (hb.cell h.lt).trans h.c2, (hb.cell h.lt).trans h.c3, (hb.cell h.lt).trans h.c4, (hb.cell h.lt).trans h.c5, (hb.cell h.lt).trans h.c6, (hb.cell h.lt).trans h.c7⟩

theorem GtBox.of {w : World} {B : Nat} {x : ByteArray} {vh : Value} {sk nw am : Int} {va : Value} {hm : Int} {vr : Value} {T : TypeId} (h : w.heap[B]? = some (.cells #[.string x, vh, .int .i64 sk, .int .i64 nw, .int .i64 am, va, .int .i64 hm, vr] T (0, 0))) : GtBox w B x vh sk nw am va hm vr :=
  ⟨lt_of_heap h, Lib.cell_of_heap h _, Lib.cell_of_heap h _, Lib.cell_of_heap h _, Lib.cell_of_heap h _, Lib.cell_of_heap h _, Lib.cell_of_heap h _, Lib.cell_of_heap h _, Lib.cell_of_heap h _⟩

theorem GtBox.new (w : World) (x : ByteArray) (vh : Value) (sk nw am : Int) (va : Value) (hm : Int) (vr : Value) (T : TypeId) : GtBox (w.alloc (.cells #[.string x, vh, .int .i64 sk, .int .i64 nw, .int .i64 am, va, .int .i64 hm, vr] T)) w.heap.size x vh sk nw am va hm vr := GtBox.of (heap_alloc_new _ _)

/-- The first hand of that issuer, or -1. -/
def HandIs (l : List Hd) (x : ByteArray) (r : Int) : Prop := (r = -1 ∧ ∀ y ∈ l, ¬ y.iss = x) ∨ ∃ i, ∃ h : i < l.length, r = (i : Int) ∧ l[i].iss = x ∧ ∀ y ∈ l.take i, ¬ y.iss = x

theorem handIs_here {l : List Hd} {i : Nat} (hi : i < l.length) {r : Int} (h : HandIs l l[i].iss r) : (r = (i : Int)) ↔ ∀ (k : Nat) (hk : k < i), ¬ (l[k]'(by omega)).iss = l[i].iss := by
  rcases h with ⟨_, h1⟩ | ⟨j, hj, rfl, h1, h2⟩
  · exact absurd rfl (h1 _ (List.getElem_mem hi))
  · constructor
    · intro e k hk
      obtain rfl : j = i := by omega
      exact h2 _ (List.mem_take_iff_getElem.2 ⟨k, by omega, rfl⟩)
    · intro hk
      rcases Nat.lt_trichotomy j i with q | q | q
      · exact absurd h1 (hk j q)
      · rw [q]
      · exact absurd rfl (h2 _ (List.mem_take_iff_getElem.2 ⟨i, by omega, rfl⟩))

end Go.Proofs.YtgdfeicojgnoaaaGreatDoor

namespace Go.Proofs.YtgdfeicojgnoaaaGreatDoor
open Go.RowKit
set_option linter.unusedVariables false
set_option linter.unusedSimpArgs false

/-- A table in its box. -/
structure TbBox (w : World) (B : Nat) (m : Int) (v : Value) : Prop where
  there : B < w.heap.size
  c0 : w.cell? ⟨B, 0, none⟩ = some (.int .i64 m)
  c1 : w.cell? ⟨B, 1, none⟩ = some v

theorem TbBox.below {w w' : World} {B : Nat} {m : Int} {v : Value} (h : TbBox w B m v) (hb : Below w.heap.size w w') : TbBox w' B m v :=
  ⟨Nat.lt_of_lt_of_le h.there hb.size, (hb.cell (p := ⟨B, 0, none⟩) h.there).trans h.c0, (hb.cell (p := ⟨B, 1, none⟩) h.there).trans h.c1⟩

theorem TbBox.of {w : World} {B : Nat} {m : Int} {v : Value} {T : TypeId} (h : w.heap[B]? = some (.cells #[.int .i64 m, v] T (0, 0))) : TbBox w B m v :=
  ⟨lt_of_heap h, by rw [Lib.cell_of_heap h]; rfl, by rw [Lib.cell_of_heap h]; rfl⟩

theorem TbBox.new (w : World) (m : Int) (v : Value) (T : TypeId) : TbBox (w.alloc (.cells #[.int .i64 m, v] T)) w.heap.size m v := TbBox.of (heap_alloc_new w _)

theorem ltB_gt {a b : ByteArray} (h : u_ltB b a = true) : Op.bytesLess a.toList b.toList = false ∧ (a.toList == b.toList) = false := by
  refine ⟨?_, ?_⟩
  · cases q : Op.bytesLess a.toList b.toList with
    | false => rfl
    | true =>
      have := u_ltB_trans (x := b) (y := a) (z := b) h q
      rw [u_ltB_irr] at this
      cases this
  · rw [str_beq]
    refine decide_eq_false fun e => ?_
    subst e
    rw [u_ltB_irr] at h
    cases h

theorem ltB_le {a b : ByteArray} (h : u_ltB b a = false) : Op.bytesLess a.toList b.toList = true ∨ (Op.bytesLess a.toList b.toList = false ∧ (a.toList == b.toList) = true) := by
  cases q : Op.bytesLess a.toList b.toList with
  | true => exact .inl rfl
  | false =>
    refine .inr ⟨rfl, ?_⟩
    rw [str_beq]
    exact decide_eq_true (u_ltB_tri (x := a) (y := b) q h)

set_option maxRecDepth 8000 in
set_option maxHeartbeats 4000000 in
theorem cTableOkS (t : Tb) (a : Option Addr) (cap : Nat) (w : World) (hR : RoRow w a t.rows) (hz : RoSz 1048576 t.rows) (hn : t.rows.length ≤ 1048576) :
    Calls Tryz.prog 46 #[tbV t a cap] w fun e w' => e = .returned (.bool (tableB t)) ∧ Below w.heap.size w w' := by
  obtain ⟨V, hV⟩ : ∃ V, tableB t = V := ⟨_, rfl⟩
  rw [hV]
  unfold tableB at hV
  obtain ⟨m, l⟩ := t
  unfold tbV
  simp only at *
  have HF : Hid (rowsB l = false → V = false) := fun h => by rw [← hV, h, Bool.and_false]
  have HT : Hid (rowsB l = true → V = (mostB m && decide ((l.length : Int) ≤ m))) := fun h => by rw [← hV, h, Bool.and_true]
  have HR := hid hR
  have HZ := hid hz
  clear hV hR hz
  obtain ⟨n, hnn⟩ : ∃ n, l.length = n := ⟨_, rfl⟩
  have HN := hid hnn
  rw [hnn] at hn HT ⊢
  clear hnn
  have HX := hid (TbBox.new w m (.slice a n cap) 27)
  have HB0 := hid ((Below.refl w.heap.size w).alloc (Nat.le_refl _) (.cells #[.int .i64 m, .slice a n cap] 27))
  go_enter Tryz.func46, Tryz.ntmps46
  go_wp2_with fail
  obtain ⟨w0, hw0⟩ : ∃ w0, w.alloc (.cells #[.int .i64 m, .slice a n cap] 27) = w0 := ⟨_, rfl⟩
  rw [hw0] at HX HB0 ⊢
  clear hw0
  obtain ⟨B, hB⟩ : ∃ B, w.heap.size = B := ⟨_, rfl⟩
  rw [hB] at HX ⊢
  go_loopw [3] (fun k wr => ∃ i : Nat, k = .int .i64 (i : Int) ∧ i ≤ n ∧ Hid (RowsP l i) ∧ Hid (Below w.heap.size w wr) ∧ Hid (TbBox wr B m (.slice a n cap))) (fun k _ => n - (intOf k).toNat)
  case atStart => exact ⟨0, rfl, Nat.zero_le _, rowsP_zero l, HB0.out, HX.out⟩
  case round =>
    clear HX HB0
    obtain ⟨i, rfl, hi, HP, HB, HX⟩ := hrel
    obtain ⟨x0, x1⟩ := And.intro HX.out.c0 HX.out.c1
    by_cases hlt : i < n
    · have his : i < l.length := by rw [HN.out]; exact hlt
      have hin : (i : Int) < (n : Int) := by omega
      obtain ⟨b, o, rfl, hb, c1, c2⟩ := HR.out.below HB.out i his
      have CI := hid (fun wx => u_c_spec_l12Id l[i].id wx (HZ.out _ (List.getElem_mem his)))
      have CT := hid (fun wx => cTimeS l[i].til wx)
      have HNX := hid (fun h => rowsP_next HP.out his h)
      have HBad := hid (fun h => HF.out (rowsB_f his h))
      have HAt : Hid (RoAt l i his ↔ (u_idOk l[i].id = true ∧ decide (0 ≤ l[i].til ∧ l[i].til ≤ 3155759999) = true) ∧ (0 < i → u_ltB (l[i - 1]'(by omega)).id l[i].id = true)) := by
        unfold RoAt roB utmB
        rw [Bool.and_eq_true]
        exact Iff.rfl
      have hBl := HX.out.there
      have X0 := fun p : BW wr => (p.h.cell (p := ⟨B, 0, none⟩) hBl).trans x0
      have X1 := fun p : BW wr => (p.h.cell (p := ⟨B, 1, none⟩) hBl).trans x1
      have HNB := hid (bw_any wr)
      obtain ⟨d1, d2⟩ := pair_bw hb c1 c2
      have HSTEP : Hid (∀ wq, Below wr.heap.size wr wq → TbBox wq B m (.slice (some ⟨b, o, none⟩) n cap) ∧ Below w.heap.size w wq) := fun wq hq => ⟨HX.out.below hq, bb HB.out hq⟩
      have hcase : (¬ RoAt l i his ∧ (u_idOk l[i].id = false ∨ (u_idOk l[i].id = true ∧ decide (0 ≤ l[i].til ∧ l[i].til ≤ 3155759999) = false))) ∨ (u_idOk l[i].id = true ∧ decide (0 ≤ l[i].til ∧ l[i].til ≤ 3155759999) = true ∧ (i = 0 ∨ 0 < i)) := by
        rw [HAt.out]
        cases u_idOk l[i].id <;> cases decide (0 ≤ l[i].til ∧ l[i].til ≤ 3155759999) <;> simp <;> omega
      rcases hcase with ⟨hno, hq⟩ | ⟨h1, h2, h3⟩
      · have HVF := hid (HBad.out hno)
        clear HAt HNX HBad hno c1 c2
        generalize u_idOk l[i].id = P at *
        generalize decide (0 ≤ l[i].til ∧ l[i].til ≤ 3155759999) = Q at *
        generalize l[i].id = x at *
        generalize l[i].til = y at *
        rcases hq with rfl | ⟨rfl, rfl⟩
        · go_wp2_with fail
          haveI := HNB.out
          refine wp_region_below (by kernel_rfl) (by kernel_rfl) (Below.refl wr.heap.size wr) ?_
          repeat (go_big_quiet_step (first | (go_at_call 34; exact calls_bw _ (CI.out _)) | (go_at_call 35; exact calls_bw _ ((CT.out _).mono fun _ _ ⟨e1, e2⟩ => ⟨e1, by rw [e2]; exact Below.refl _ _⟩))))
          refine wpQuiet_nil ?_
          intro wq hw'
          obtain ⟨⟨wz, hwq⟩, hw''⟩ := hw'
          subst hw''
          have HS := hid (HSTEP.out wq hwq)
          go_wp2_with fail
          go_ret
          exact ⟨by rw [HVF.out]; rfl, hB ▸ HS.out.2⟩
        · go_wp2_with fail
          haveI := HNB.out
          refine wp_region_below (by kernel_rfl) (by kernel_rfl) (Below.refl wr.heap.size wr) ?_
          repeat (go_big_quiet_step (first | (go_at_call 34; exact calls_bw _ (CI.out _)) | (go_at_call 35; exact calls_bw _ ((CT.out _).mono fun _ _ ⟨e1, e2⟩ => ⟨e1, by rw [e2]; exact Below.refl _ _⟩))))
          refine wpQuiet_nil ?_
          intro wq hw'
          obtain ⟨⟨wz, hwq⟩, hw''⟩ := hw'
          subst hw''
          have HS := hid (HSTEP.out wq hwq)
          go_wp2_with fail
          go_ret
          exact ⟨by rw [HVF.out]; rfl, hB ▸ HS.out.2⟩
      · rw [h1] at CI
        rw [h2] at CT
        rcases h3 with rfl | h3
        · have HP1 := hid (HNX.out (HAt.out.2 ⟨⟨h1, h2⟩, fun h => absurd h (Nat.lt_irrefl 0)⟩))
          clear HAt HNX HBad c1 c2 h1 h2
          simp only [Nat.zero_mul, Nat.add_zero] at d1 d2
          generalize l[0].id = x at *
          generalize l[0].til = y at *
          go_wp2_with fail
          haveI := HNB.out
          refine wp_region_below (by kernel_rfl) (by kernel_rfl) (Below.refl wr.heap.size wr) ?_
          repeat (go_big_quiet_step (first | (go_at_call 34; exact calls_bw _ (CI.out _)) | (go_at_call 35; exact calls_bw _ ((CT.out _).mono fun _ _ ⟨e1, e2⟩ => ⟨e1, by rw [e2]; exact Below.refl _ _⟩))))
          refine wpQuiet_nil ?_
          intro wq hw'
          obtain ⟨⟨wz, hwq⟩, hw''⟩ := hw'
          subst hw''
          have HS := hid (HSTEP.out wq hwq)
          clear CI CT d1 d2 X0 X1 HSTEP HNB x0 x1
          go_wp2_with fail
          go_roundw
          case rel => exact ⟨1, by go_num, by omega, HP1.out, HS.out.2, HS.out.1⟩
          case measure => simp [intOf]; omega
        · obtain ⟨k, hk⟩ : ∃ k : Nat, k + 1 = i := ⟨i - 1, by omega⟩
          have hki : (i : Int) - 1 = (k : Int) := by omega
          have hks : k < l.length := by omega
          have hpos : decide ((0 : Int) < (i : Int)) = true := by simp; omega
          obtain ⟨b', o', e', hb', c1', c2'⟩ := HR.out.below HB.out k hks
          cases e'
          obtain ⟨d1', d2'⟩ := pair_bw hb' c1' c2'
          have ek : (l[i - 1]'(by omega)) = l[k] := by simp only [show i - 1 = k by omega]
          have hkl : (k : Int) < (n : Int) := by omega
          rw [ek] at HAt
          cases hl : u_ltB l[k].id l[i].id with
          | true =>
            have HP1 := hid (HNX.out (HAt.out.2 ⟨⟨h1, h2⟩, fun _ => hl⟩))
            obtain ⟨g1, g2⟩ := ltB_gt hl
            clear HAt HNX HBad c1 c2 h1 h2 hl c1' c2' d2' ek
            generalize l[i].id = x at *
            generalize l[i].til = y at *
            generalize l[k].id = z at *
            go_wp2_with fail
            haveI := HNB.out
            refine wp_region_below (by kernel_rfl) (by kernel_rfl) (Below.refl wr.heap.size wr) ?_
            repeat (go_big_quiet_step (first | (go_at_call 34; exact calls_bw _ (CI.out _)) | (go_at_call 35; exact calls_bw _ ((CT.out _).mono fun _ _ ⟨e1, e2⟩ => ⟨e1, by rw [e2]; exact Below.refl _ _⟩))))
            refine wpQuiet_nil ?_
            intro wq hw'
            obtain ⟨⟨wz, hwq⟩, hw''⟩ := hw'
            subst hw''
            have HS := hid (HSTEP.out wq hwq)
            clear CI CT d1 d2 X0 X1 HSTEP HNB x0 x1 d1' g1 g2
            go_wp2_with fail
            go_roundw
            case rel => exact ⟨i + 1, by go_num, by omega, HP1.out, HS.out.2, HS.out.1⟩
            case measure => simp [intOf]; omega
          | false =>
            have HVF := hid (HBad.out (fun h => by have := (HAt.out.1 h).2 h3; rw [hl] at this; cases this))
            have hg := ltB_le hl
            clear HAt HNX HBad c1 c2 h1 h2 hl c1' c2' d2' ek
            generalize l[i].id = x at *
            generalize l[i].til = y at *
            generalize l[k].id = z at *
            rcases hg with g1 | ⟨g1, g2⟩
            · go_wp2_with fail
              haveI := HNB.out
              refine wp_region_below (by kernel_rfl) (by kernel_rfl) (Below.refl wr.heap.size wr) ?_
              repeat (go_big_quiet_step (first | (go_at_call 34; exact calls_bw _ (CI.out _)) | (go_at_call 35; exact calls_bw _ ((CT.out _).mono fun _ _ ⟨e1, e2⟩ => ⟨e1, by rw [e2]; exact Below.refl _ _⟩))))
              refine wpQuiet_nil ?_
              intro wq hw'
              obtain ⟨⟨wz, hwq⟩, hw''⟩ := hw'
              subst hw''
              have HS := hid (HSTEP.out wq hwq)
              go_wp2_with fail
              go_ret
              exact ⟨by rw [HVF.out]; rfl, hB ▸ HS.out.2⟩
            · go_wp2_with fail
              haveI := HNB.out
              refine wp_region_below (by kernel_rfl) (by kernel_rfl) (Below.refl wr.heap.size wr) ?_
              repeat (go_big_quiet_step (first | (go_at_call 34; exact calls_bw _ (CI.out _)) | (go_at_call 35; exact calls_bw _ ((CT.out _).mono fun _ _ ⟨e1, e2⟩ => ⟨e1, by rw [e2]; exact Below.refl _ _⟩))))
              refine wpQuiet_nil ?_
              intro wq hw'
              obtain ⟨⟨wz, hwq⟩, hw''⟩ := hw'
              subst hw''
              have HS := hid (HSTEP.out wq hwq)
              go_wp2_with fail
              go_ret
              exact ⟨by rw [HVF.out]; rfl, hB ▸ HS.out.2⟩
    · have hie : i = n := by omega
      subst hie
      have HVT := hid (HT.out (rowsB_t (by rw [HN.out]; exact HP.out)))
      have CM := hid (fun wx => cIn m 1 20 wx)
      clear HP
      by_cases h1 : 1 ≤ m ∧ m ≤ 20
      · have hd : decide (1 ≤ m ∧ m ≤ 20) = true := decide_eq_true h1
        rw [hd] at CM
        have HD := hid (show V = decide ((i : Int) ≤ m) by rw [HVT.out]; unfold mostB; rw [hd, Bool.true_and])
        clear hd
        cases hq : decide ((i : Int) ≤ m) with
        | true =>
          have hq' : (i : Int) ≤ m := by simpa using hq
          go_wp2_with fail
          refine (CM.out _).mono ?_
          rintro e w1 ⟨rfl, rfl⟩
          go_wp2_with fail
          go_ret
          exact ⟨by rw [HD.out, hq]; rfl, hB ▸ HB.out⟩
        | false =>
          have hq' : ¬ (i : Int) ≤ m := by simpa using hq
          go_wp2_with fail
          refine (CM.out _).mono ?_
          rintro e w1 ⟨rfl, rfl⟩
          go_wp2_with fail
          go_ret
          exact ⟨by rw [HD.out, hq]; rfl, hB ▸ HB.out⟩
      · have hd : decide (1 ≤ m ∧ m ≤ 20) = false := decide_eq_false h1
        rw [hd] at CM
        have HD := hid (show V = false by rw [HVT.out]; unfold mostB; rw [hd, Bool.false_and])
        clear hd h1
        go_wp2_with fail
        refine (CM.out _).mono ?_
        rintro e w1 ⟨rfl, rfl⟩
        go_wp2_with fail
        go_ret
        exact ⟨by rw [HD.out]; rfl, hB ▸ HB.out⟩

set_option maxHeartbeats 2000000 in
theorem cFindS (t : Tb) (a : Option Addr) (cap : Nat) (id : ByteArray) (w : World) (hR : RoRow w a t.rows) (hz : RoSz 1048576 t.rows) (hn : t.rows.length ≤ 1048576) (hi : id.size ≤ 1048576) :
    Calls Tryz.prog 74 #[tbV t a cap, .string id] w fun e w' => e = .returned (.tuple #[.int .i64 ((findR t.rows id : Nat) : Int), .bool (isR t.rows id)]) ∧ Below w.heap.size w w' := by
  obtain ⟨m, l⟩ := t
  unfold tbV
  simp only at *
  obtain ⟨K, hK⟩ : ∃ K, findR l id = K := ⟨_, rfl⟩
  obtain ⟨I, hI⟩ : ∃ I, isR l id = I := ⟨_, rfl⟩
  have HK := hid hK
  have HI := hid hI
  rw [hK, hI]
  have HR := hid hR
  have HZ := hid hz
  clear hR hz hK hI
  obtain ⟨n, hnn⟩ : ∃ n, l.length = n := ⟨_, rfl⟩
  have HN := hid hnn
  rw [hnn] at hn ⊢
  clear hnn
  have HX := hid (TbBox.new w m (.slice a n cap) 27)
  have HB0 := hid ((Below.refl w.heap.size w).alloc (Nat.le_refl _) (.cells #[.int .i64 m, .slice a n cap] 27))
  go_enter Tryz.func74, Tryz.ntmps74
  go_wp2_with fail
  obtain ⟨w0, hw0⟩ : ∃ w0, w.alloc (.cells #[.int .i64 m, .slice a n cap] 27) = w0 := ⟨_, rfl⟩
  rw [hw0] at HX HB0 ⊢
  clear hw0
  obtain ⟨B, hB⟩ : ∃ B, w.heap.size = B := ⟨_, rfl⟩
  rw [hB] at HX ⊢
  obtain ⟨x0, x1⟩ := And.intro HX.out.c0 HX.out.c1
  go_loop [6] (fun k => ∃ i : Nat, k = .int .i64 (i : Int) ∧ i ≤ n ∧ Hid (∀ j (h : j < l.length), j < i → u_ltB l[j].id id = true)) (fun k => n - (intOf k).toNat)
  case atStart => exact ⟨0, rfl, Nat.zero_le _, fun j _ h => absurd h (Nat.not_lt_zero _)⟩
  case round =>
    obtain ⟨i, rfl, hin, HP⟩ := hrel
    by_cases hlt : i < n
    · have his : i < l.length := by rw [HN.out]; exact hlt
      have hit : (i : Int) < (n : Int) := by omega
      have hdt : decide ((i : Int) < (n : Int)) = true := decide_eq_true hit
      obtain ⟨b, o, rfl, hb, c1, c2⟩ := HR.out.below HB0.out i his
      have HZ1 := HZ.out _ (List.getElem_mem his)
      cases hl : u_ltB l[i].id id with
      | true =>
        have HP1 := hid (show ∀ j (h : j < l.length), j < i + 1 → u_ltB l[j].id id = true from fun j h hj => by
          rcases Nat.lt_or_eq_of_le (Nat.le_of_lt_succ hj) with h' | h'
          · exact HP.out j h h'
          · subst h'; exact hl)
        unfold u_ltB at hl
        clear HP c2
        generalize l[i].id = x at *
        go_wp2_with fail
        go_round
        case rel => exact ⟨i + 1, by go_num, by omega, HP1.out⟩
        case measure => simp [intOf]; omega
      | false =>
        have hk := findR_at (l := l) (id := id) (Nat.le_of_lt his) (fun j hj => HP.out j (by omega) hj) (fun _ => hl)
        have HKE := hid (show K = i by rw [← HK.out]; exact hk)
        have hI : isR l id = decide (l[i].id = id) := by
          unfold isR
          simp only [hk]
          rw [dif_pos his]
        rw [HI.out, ← str_beq] at hI
        have HIE := hid hI
        unfold u_ltB at hl
        clear HP c2 hk hI
        generalize l[i].id = x at *
        generalize hq : (x.toList == id.toList) = Q at *
        go_wp2_with fail
        go_quiet (fail)
        go_wp2_with fail
        go_ret2
        exact ⟨by rw [HKE.out, HIE.out]; rfl, below_drewN HB0.out _⟩
    · have hie : i = n := by omega
      subst hie
      have hk := findR_at (l := l) (id := id) (k := i) (by rw [HN.out]; exact Nat.le_refl _) (fun j hj => HP.out j (by rw [HN.out]; exact hj) hj) (fun q => by rw [HN.out] at q; exact absurd q (Nat.lt_irrefl _))
      have HKE := hid (show K = i by rw [← HK.out]; exact hk)
      have HIE := hid (show I = false by rw [← HI.out]; exact isR_len (by rw [hk, HN.out]))
      have hdf : decide ((i : Int) < (i : Int)) = false := by simp
      clear HP hk
      go_wp2_with fail
      go_quiet (fail)
      go_wp2_with fail
      go_ret2
      exact ⟨by rw [HKE.out, HIE.out]; rfl, below_drewN HB0.out _⟩

end Go.Proofs.YtgdfeicojgnoaaaGreatDoor

namespace Go.Proofs
open Go.Shelf
def Tryz.lays106_ren : Go.Shelf.Ren := ⟨fun | 106 => 115 | 213 => 137 | 265 => 155 | n => n, fun | 9 => 9 | 3 => 3 | n => n, fun | n => n⟩
theorem Tryz.lays106 : Go.Proofs.Lays.n106 Tryz.prog Tryz.lays106_ren := {
  mixed := by kernel_rfl
  f106 := Tryz.func115.trans (congrArg some (by kernel_rfl))
  f213 := Tryz.func137.trans (congrArg some (by kernel_rfl))
  f265 := Tryz.func155.trans (congrArg some (by kernel_rfl))
  t3 := Tryz.underlying3
  a3 := Tryz.isAgg3
  z3 := Tryz.sizeOf3
  v3 := Tryz.zeroValue3
  t9 := Tryz.underlying9
  a9 := Tryz.isAgg9
  z9 := Tryz.sizeOf9
  v9 := Tryz.zeroValue9 }
open Go.RowKit in
theorem Tryz.strings_Compare (a b : ByteArray) (w : World) :
    Calls Tryz.prog 115 #[.string a, .string b] w fun e w' => e = .returned (.int .i64 (Lib.compareBytes a.data.toList b.data.toList)) ∧ w' = w := Any.strings_Compare Tryz.lays106 a b w
end Go.Proofs
